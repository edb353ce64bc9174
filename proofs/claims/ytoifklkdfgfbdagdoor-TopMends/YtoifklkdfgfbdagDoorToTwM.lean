/- shamir.Open. · Slices of rows of a dealing in two variables (api.Row) that are read. · Dealings in two variables: what Pairs and Join tell: plain facts. -/
import Derived.Test.YtoifklkdfgfbdagDoorToCheckC
import Derived.Test.YtoifklkdfgfbdagDoorToLagC
import Derived.Test.YtoifklkdfgfbdagDoorToPolyM
import Derived.Test.YtoifklkdfgfbdagDoorToBadM
namespace Go.Proofs.YtoifklkdfgfbdagDoor
open Go.RowKit Crm

set_option maxRecDepth 100000 in
set_option maxHeartbeats 1000000 in
theorem cOpenS (a : Option Addr) (n c : Nat) (l : List (Int × Int)) (t : Int) (w : World) (h : RdS w a n c l) :
    Calls Tryd.prog 38 #[.int .i64 t, .slice a n c] w fun e w' => ∃ x r, e = .returned (.tuple #[.int .u64 x, .int .i64 r]) ∧ Opn l n t x r ∧ Below w.heap.size w w' := by
  go_enter Tryd.func38, Tryd.ntmps38
  go_wp2_with fail
  refine (cCheckS _ _ _ _ _ _ h).mono ?_
  rintro e w1 ⟨r, rfl, hS, hb1⟩
  by_cases hr : r = 0
  · subst hr
    have HS : Hid (She l n t 0) := hS
    obtain ⟨t0, t4, hd, htn, hn9⟩ := hS.ok
    have HD : Hid (okk l n) := dis_okk hd
    clear hd hS
    go_wp2_with fail
    refine (cThroughOK _ _ _ _ _ (h.below hb1) (by omega) HD.out).mono ?_
    rintro e w2 ⟨S, g, rfl, hls, hbs, hvs, hr2, hb2⟩
    have HO : Hid (_ ∧ _) := opn_newton HS.out hls hbs hvs
    have hb12 := hb1.trans (hb2.mono hb1.size)
    have htl := tl_le S n
    obtain ⟨T, hT⟩ : ∃ T, T = tl S n := ⟨_, rfl⟩
    rw [← hT] at hr2 HO htl ⊢
    clear hls hbs hvs hb1 hb2 hT
    by_cases hlt : (T : Int) ≤ t + 1
    · have HN : Hid (Opn l n t (nm (ev (trm S) 0)) 0) := HO.out.1 hlt
      clear HO
      go_wp2_with fail
      refine (cEvalOK _ _ _ _ _ _ hr2 (by omega) (by omega) (by omega)).mono ?_
      rintro e w3 ⟨rfl, hb3⟩
      have hb13 := hb12.trans (hb3.mono hb12.size)
      clear hb3 hr2
      go_wp2
      go_ret2
      exact ⟨_, _, rfl, HN.out, hb13⟩
    · have HN : Hid (Opn l n t 0 6) := HO.out.2 (by omega)
      clear HO
      go_wp2
      go_ret2
      exact ⟨_, _, rfl, HN.out, hb12⟩
  · have hrb : (r != 0) = true := by rw [bne_iff_ne]; exact hr
    have HS : Hid (Opn l n t 0 r) := Or.inl ⟨hS, hr, rfl⟩
    clear hr hS
    go_wp2
    go_ret2
    exact ⟨_, _, rfl, HS.out, hb1⟩
end Go.Proofs.YtoifklkdfgfbdagDoor

namespace Go.Proofs.YtoifklkdfgfbdagDoor
open Go.RowKit Crm

/-- At which party a row stands; its numbers. -/
def ta (l : List (Int × List Int)) (i : Nat) : Int := (l.getD i (0, [])).1
def tc (l : List (Int × List Int)) (i : Nat) : List Int := (l.getD i (0, [])).2

/-- The slice reads as the rows l. -/
structure RdW (w : World) (a : Option Addr) (n c : Nat) (l : List (Int × List Int)) : Prop where
  len : l.length = n
  cap : n ≤ c
  max : c ≤ maxLen
  nil : a = none → c = 0
  bd : ∀ i, i < n → -9223372036854775808 ≤ ta l i ∧ ta l i ≤ 9223372036854775807
  row : ∀ x, a = some x → ∀ i, i < n → w.cell? (x.add (i * 2)) = some (.int .i64 (ta l i)) ∧ ∃ ai ci, w.cell? (x.add (i * 2 + 1)) = some (.slice ai (tc l i).length ci) ∧ Rd w ai (tc l i).length ci (tc l i)

theorem RdW.at {w : World} {a : Option Addr} {n c : Nat} {l : List (Int × List Int)} (h : RdW w a n c l) {k : Nat} (hk : k < n) :
    ∃ b o, a = some ⟨b, o, none⟩ ∧ b < w.heap.size ∧ ∀ i, i < n → w.cell? ⟨b, o + i * 2, none⟩ = some (.int .i64 (ta l i)) ∧ ∃ ai ci, w.cell? ⟨b, o + i * 2 + 1, none⟩ = some (.slice ai (tc l i).length ci) ∧ Rd w ai (tc l i).length ci (tc l i) := by
  cases ha : a with
  | none => have := h.nil ha; have := h.cap; omega
  | some x =>
    have h0 := (h.row x ha 0 (by omega)).1
    have hs : x.spot = none := by
      have := spot_none h0
      unfold Addr.add at this
      split at this <;> simp_all
    obtain ⟨b, o, s⟩ := x
    simp only at hs
    subst hs
    refine ⟨b, o, rfl, ?_, fun i hi => by have := h.row _ ha i hi; rwa [Addr.add_lit, Addr.add_lit, ← Nat.add_assoc] at this⟩
    have := World.block_lt_of_cell? w _ h0
    rwa [Addr.add_lit] at this
/-- One row of it, by names of its own. -/
theorem RdW.one {w : World} {a : Option Addr} {n c : Nat} {l : List (Int × List Int)} (h : RdW w a n c l) {k : Nat} (hk : k < n) :
    ∃ b o x ai ni ci row, a = some ⟨b, o, none⟩ ∧ b < w.heap.size ∧ Hid (ta l k = x) ∧ Hid (tc l k = row) ∧ -9223372036854775808 ≤ x ∧ x ≤ 9223372036854775807 ∧ w.cell? ⟨b, o + k * 2, none⟩ = some (.int .i64 x) ∧ w.cell? ⟨b, o + k * 2 + 1, none⟩ = some (.slice ai ni ci) ∧ Rd w ai ni ci row := by
  obtain ⟨b, o, ha, hb, hr⟩ := h.at hk
  obtain ⟨h0, ai, ci, h1, h2⟩ := hr k hk
  have := h.bd k hk
  exact ⟨b, o, _, ai, _, ci, _, ha, hb, rfl, rfl, this.1, this.2, h0, h1, h2⟩
theorem RdW.below {w w' : World} {a : Option Addr} {n c : Nat} {l : List (Int × List Int)} (h : RdW w a n c l) (hb : Below w.heap.size w w') : RdW w' a n c l := by
  refine ⟨h.len, h.cap, h.max, h.nil, h.bd, fun x hx i hi => ?_⟩
  obtain ⟨h0, ai, ci, h1, h2⟩ := h.row x hx i hi
  exact ⟨by rw [hb.cell (World.block_lt_of_cell? w _ h0)]; exact h0, ai, ci, by rw [hb.cell (World.block_lt_of_cell? w _ h1)]; exact h1, h2.below hb⟩
theorem RdW.nilW (w : World) : RdW w none 0 0 [] := ⟨rfl, Nat.le_refl _, Nat.zero_le _, fun _ => rfl, fun i hi => by omega, by simp⟩

/-- Rows that may be. -/
def Rwk (l : List (Int × List Int)) (n : Nat) : Prop := ∀ i, i < n → ((1 ≤ ta l i ∧ ta l i ≤ 9) ∧ ∀ j, j < i → ta l j ≠ ta l i) ∧ 1 ≤ (tc l i).length ∧ (tc l i).length ≤ 5
theorem rwk_zero (l : List (Int × List Int)) : Rwk l 0 := fun i hi => by omega
theorem Rwk.dis {l : List (Int × List Int)} {n : Nat} (h : Rwk l n) : dis (ta l) n := fun i hi => (h i hi).1
theorem rwk_succ {l : List (Int × List Int)} {k : Nat} {x : Int} {m : Nat} (h : Rwk l k) (hx : ta l k = x) (hm : (tc l k).length = m) (h1 : 1 ≤ x) (h9 : x ≤ 9) (m1 : 1 ≤ m) (m5 : m ≤ 5) (h3 : ∀ j, j < k → ta l j ≠ x) : Rwk l (k + 1) := by
  intro i hi
  by_cases e : i = k
  · subst e; rw [hx, hm]; exact ⟨⟨⟨h1, h9⟩, h3⟩, m1, m5⟩
  · exact h i (by omega)
end Go.Proofs.YtoifklkdfgfbdagDoor

namespace Go.Proofs.YtoifklkdfgfbdagDoor
open Crm

/-- F, column by column: symmetrical, and all rows have its numbers. -/
structure TwF (l : List (Int × List Int)) (n t : Nat) (G : Nat → List Int) : Prop where
  le : ∀ j, j ≤ t → (G j).length ≤ t + 1
  sym : ∀ i j, i ≤ t → j ≤ t → nm ((G i).getD j 0) = nm ((G j).getD i 0)
  val : ∀ j, j ≤ t → ∀ r, r < n → nm (ev (G j) (ta l r)) = nm ((tc l r).getD j 0)
/-- Rows of t + 1 numbers each. -/
def Rwt (l : List (Int × List Int)) (n t : Nat) : Prop := Rwk l n ∧ ∀ i, i < n → (tc l i).length = t + 1
/-- What Join tells. -/
def Jnd (l : List (Int × List Int)) (n : Nat) (t x r : Int) : Prop :=
  ((t < 0 ∨ 4 < t) ∧ x = 0 ∧ r = 1) ∨ ∃ k : Nat, t = (k : Int) ∧ k ≤ 4 ∧
    ((¬ Rwt l n k ∧ x = 0 ∧ r = 5) ∨ (Rwt l n k ∧ n ≤ k ∧ x = 0 ∧ r = 4) ∨ (Rwt l n k ∧ k < n ∧ ((∃ G, TwF l n k G ∧ x = nm ((G 0).getD 0 0) ∧ r = 0) ∨ ((∀ G, ¬ TwF l n k G) ∧ x = 0 ∧ r = 6))))

theorem col_one {l : List (Int × List Int)} {n t : Nat} {p q : List Int} (hd : dis (ta l) n) (hn : t < n) (hp : p.length ≤ t + 1) (hq : q.length ≤ t + 1) (h : ∀ r, r < n → nm (ev p (ta l r)) = nm (ev q (ta l r))) : nrm p = nrm q := by
  have hw : ∀ j, j < n → ((List.range n).map fun i => (ta l i, ev p (ta l i))).getD j (0, 0) = (ta l j, ev p (ta l j)) := fun j hj => by simp [hj]
  refine hs_one (l := (List.range n).map fun i => (ta l i, ev p (ta l i))) (n := n) (fun j hj => ?_) (fun j hj => ?_) (fun j hj => ?_) (by omega) (by omega)
  · rw [hw j hj]
    have h1 := hd j hj
    refine ⟨⟨h1.1.1, by simp only; omega⟩, fun q hq => ?_⟩
    rw [hw q (by omega)]
    exact h1.2 q hq
  · rw [hw j hj]
  · rw [hw j hj]; exact (h j hj).symm
/-- There is but one F. -/
theorem twf_one {l : List (Int × List Int)} {n t : Nat} {G K : Nat → List Int} (hd : dis (ta l) n) (hn : t < n) (h : TwF l n t G) (k : TwF l n t K) {j : Nat} (hj : j ≤ t) : nrm (G j) = nrm (K j) :=
  col_one hd hn (h.le j hj) (k.le j hj) fun r hr => by rw [h.val j hj r hr, k.val j hj r hr]
theorem Jnd.one {l : List (Int × List Int)} {n : Nat} {t x r y s : Int} (h : Jnd l n t x r) (k : Jnd l n t y s) : x = y ∧ r = s := by
  rcases h with ⟨h1, rfl, rfl⟩ | ⟨a, rfl, ha, h⟩ <;> rcases k with ⟨k1, rfl, rfl⟩ | ⟨b, hb, hb4, k⟩
  · exact ⟨rfl, rfl⟩
  · exfalso; omega
  · exfalso; omega
  · obtain rfl : a = b := by omega
    rcases h with ⟨h1, rfl, rfl⟩ | ⟨h1, h2, rfl, rfl⟩ | ⟨h1, h2, h3⟩ <;> rcases k with ⟨k1, rfl, rfl⟩ | ⟨k1, k2, rfl, rfl⟩ | ⟨k1, k2, k3⟩
    all_goals first
      | exact ⟨rfl, rfl⟩
      | exact absurd k1 h1
      | exact absurd h1 k1
      | (exfalso; omega)
      | skip
    rcases h3 with ⟨G, g1, rfl, rfl⟩ | ⟨g1, rfl, rfl⟩ <;> rcases k3 with ⟨K, e1, rfl, rfl⟩ | ⟨e1, rfl, rfl⟩
    · have := twf_one h1.1.dis h2 g1 e1 (Nat.zero_le a)
      exact ⟨by rw [← nrm_getD, ← nrm_getD, this], rfl⟩
    · exact absurd g1 (e1 G)
    · exact absurd e1 (g1 K)
    · exact ⟨rfl, rfl⟩

/-- Rows of i and of j tell different things where they meet. -/
def Dif (l : List (Int × List Int)) (n : Nat) (i j : Int) : Prop := ∃ r s, r < n ∧ s < n ∧ ta l r = i ∧ ta l s = j ∧ nm (ev (tc l r) j) ≠ nm (ev (tc l s) i)
/-- Pairs go up. -/
def lexp (a b : Int × Int) : Prop := a.1 < b.1 ∨ (a.1 = b.1 ∧ a.2 < b.2)
/-- What Pairs tells: all pairs that don't meet, going up. -/
structure Prs (l : List (Int × List Int)) (n : Nat) (L : List (Int × Int)) : Prop where
  up : L.Pairwise lexp
  mem : ∀ i j, (i, j) ∈ L ↔ (i < j ∧ Dif l n i j)
theorem lex_ext : ∀ {L K : List (Int × Int)}, L.Pairwise lexp → K.Pairwise lexp → (∀ x, x ∈ L ↔ x ∈ K) → L = K
  | [], [], _, _, _ => rfl
  | [], b :: K, _, _, h => by have := (h b).2 (by simp); simp at this
  | a :: L, [], _, _, h => by have := (h a).1 (by simp); simp at this
  | a :: L, b :: K, hL, hK, h => by
    rw [List.pairwise_cons] at hL hK
    have e : a = b := by
      rcases List.mem_cons.1 ((h a).1 (by simp)) with e | e
      · exact e
      · rcases List.mem_cons.1 ((h b).2 (by simp)) with e' | e'
        · exact e'.symm
        · have h1 := hL.1 b e'
          have h2 := hK.1 a e
          unfold lexp at h1 h2
          exfalso; omega
    subst e
    congr 1
    refine lex_ext hL.2 hK.2 fun x => ⟨fun hx => ?_, fun hx => ?_⟩
    · rcases List.mem_cons.1 ((h x).1 (List.mem_cons_of_mem _ hx)) with e | e
      · subst e
        have := hL.1 x hx
        unfold lexp at this
        exfalso; omega
      · exact e
    · rcases List.mem_cons.1 ((h x).2 (List.mem_cons_of_mem _ hx)) with e | e
      · subst e
        have := hK.1 x hx
        unfold lexp at this
        exfalso; omega
      · exact e
theorem Prs.one {l : List (Int × List Int)} {n : Nat} {L K : List (Int × Int)} (h : Prs l n L) (k : Prs l n K) : L = K :=
  lex_ext h.up k.up fun x => by obtain ⟨i, j⟩ := x; rw [h.mem, k.mem]
end Go.Proofs.YtoifklkdfgfbdagDoor
