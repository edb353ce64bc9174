/- What Decode and Open of chapter 5 tell: plain facts. · croftref.Join: plain facts. · Slices of gates (api.Gate) that are read. · circuit.shapes: a variable that start-up lays. -/
import Derived.Test.YtljlioglpaogdagDoorToBadM
import Derived.Test.YtljlioglpaogdagDoorToSortM
namespace Go.Proofs.YtljlioglpaogdagDoor
set_option linter.unusedVariables false
set_option maxRecDepth 100000
set_option maxHeartbeats 8000000
section
open Crm
/-- The m numbers of a polynomial, noughts at the end too. -/
def pdn (p : List Int) (m : Nat) : List Int := (List.range m).map fun i => nm (p.getD i 0)
theorem pdn_len (p : List Int) (m : Nat) : (pdn p m).length = m := by simp [pdn]
theorem pdn_getD (p : List Int) {m i : Nat} (h : i < m) : (pdn p m).getD i 0 = nm (p.getD i 0) := by simp [pdn, h]
theorem pdn_same {p q : List Int} (h : nrm p = nrm q) (m : Nat) : pdn p m = pdn q m := by
  refine list_ext (by rw [pdn_len, pdn_len]) fun i hi => ?_
  rw [pdn_len] at hi
  rw [pdn_getD p hi, pdn_getD q hi, ← nrm_getD, ← nrm_getD, h]
/-- Shares that are good enough for Decode: none of them twice; there may be too few. -/
def Shd (l : List (Int × Int)) (n : Nat) (t : Int) : Prop := (0 ≤ t ∧ t ≤ 4) ∧ dis (fa l) n
theorem Shd.she {l : List (Int × Int)} {n : Nat} {t r : Int} (h : Shd l n t) (k : She l n t r) : r = 0 ∨ r = 4 := by
  rcases k with ⟨k1, _⟩ | ⟨_, k3, _⟩ | ⟨_, _, _, k2⟩ | ⟨_, _, _, k2⟩
  · have := h.1; omega
  · exact absurd h.2 k3
  · exact Or.inr k2
  · exact Or.inl k2

/-- A polynomial of t + 1 numbers that has all shares but e. -/
def Few (l : List (Int × Int)) (n : Nat) (t e : Int) (p : List Int) : Prop := (p.length : Int) ≤ t + 1 ∧ ((bdl l p n).length : Int) ≤ e
/-- What Decode tells. -/
def Dcd (l : List (Int × Int)) (n : Nat) (t e : Int) (P B : List Int) (r : Int) : Prop :=
  ((She l n t r ∧ r ≠ 0 ∧ r ≠ 4) ∧ P = [] ∧ B = []) ∨
  (Shd l n t ∧ (e < 0 ∨ 4 < e) ∧ P = [] ∧ B = [] ∧ r = 1) ∨
  (Shd l n t ∧ (0 ≤ e ∧ e ≤ 4) ∧ (n : Int) < t + 1 + 2 * e ∧ P = [] ∧ B = [] ∧ r = 4) ∨
  (Shd l n t ∧ (0 ≤ e ∧ e ≤ 4) ∧ t + 1 + 2 * e ≤ (n : Int) ∧ (∃ p, Few l n t e p ∧ P = pdn p (t + 1).toNat ∧ OuI (bdl l p n) B (bdl l p n).length) ∧ r = 0) ∨
  (Shd l n t ∧ (0 ≤ e ∧ e ≤ 4) ∧ t + 1 + 2 * e ≤ (n : Int) ∧ (∀ p, ¬ Few l n t e p) ∧ P = [] ∧ B = [] ∧ r = 6)

theorem few_one {l : List (Int × Int)} {n : Nat} {t e : Int} {p q : List Int} (hl : l.length = n) (hs : Shd l n t) (he : 0 ≤ e) (hn : t + 1 + 2 * e ≤ (n : Int)) (hp : Few l n t e p) (hq : Few l n t e q) : nrm p = nrm q := by
  obtain ⟨k, rfl⟩ : ∃ k : Nat, t = k := ⟨t.toNat, by have := hs.1; omega⟩
  obtain ⟨d, rfl⟩ : ∃ d : Nat, e = d := ⟨e.toNat, by omega⟩
  have h1 := hp.1
  have h2 := hq.1
  have h3 := hp.2
  have h4 := hq.2
  exact dec_one (t := k) (e := d) hl hs.2 (by omega) (by omega) (by omega) (by omega) (by omega)

theorem Dcd.one {l : List (Int × Int)} {n : Nat} {t e : Int} {P B Q C : List Int} {r s : Int} (hl : l.length = n) (h : Dcd l n t e P B r) (k : Dcd l n t e Q C s) : P = Q ∧ B = C ∧ r = s := by
  have no : ∀ {x : Int}, Shd l n t → She l n t x → x ≠ 0 → x ≠ 4 → False := fun hs hx h0 h4 => by
    rcases hs.she hx with e | e
    · exact h0 e
    · exact h4 e
  rcases h with ⟨⟨h1, h2, h3⟩, rfl, rfl⟩ | ⟨h1, h2, rfl, rfl, rfl⟩ | ⟨h1, h2, h3, rfl, rfl, rfl⟩ | ⟨h1, h2, h3, ⟨p, p1, rfl, p2⟩, rfl⟩ | ⟨h1, h2, h3, h4, rfl, rfl, rfl⟩ <;>
    rcases k with ⟨⟨k1, k2, k3⟩, rfl, rfl⟩ | ⟨k1, k2, rfl, rfl, rfl⟩ | ⟨k1, k2, k3, rfl, rfl, rfl⟩ | ⟨k1, k2, k3, ⟨q, q1, rfl, q2⟩, rfl⟩ | ⟨k1, k2, k3, k4, rfl, rfl, rfl⟩
  all_goals first
    | exact ⟨rfl, rfl, rfl⟩
    | exact ⟨rfl, rfl, h1.one k1⟩
    | exact (no k1 h1 h2 h3).elim
    | exact (no h1 k1 k2 k3).elim
    | (exfalso; omega)
    | exact absurd p1 (k4 p)
    | exact absurd q1 (h4 q)
    | skip
  have hnr := few_one hl h1 h2.1 h3 p1 q1
  have hbd : bdl l p n = bdl l q n := by rw [← hl]; exact bdl_same hnr l
  refine ⟨pdn_same hnr _, srt_one p2 q2 (by rw [hbd]) ?_ ?_, rfl⟩
  · exact p2.perm.length_eq
  · exact q2.perm.length_eq

/-- As many wrong ones as there may be. -/
def mayb (n : Nat) (t : Int) : Int := min 4 (((n : Int) - t - 1) / 2)
/-- What Open tells. -/
def Rob (l : List (Int × Int)) (n : Nat) (t x : Int) (B : List Int) (r : Int) : Prop :=
  (She l n t r ∧ r ≠ 0 ∧ x = 0 ∧ B = []) ∨ (She l n t 0 ∧ ∃ P C s, Dcd l n t (mayb n t) P C s ∧ ((s ≠ 0 ∧ x = 0 ∧ B = [] ∧ r = s) ∨ (s = 0 ∧ x = P.getD 0 0 ∧ B = C ∧ r = 0)))
theorem Rob.one {l : List (Int × Int)} {n : Nat} {t x y : Int} {B C : List Int} {r s : Int} (hl : l.length = n) (h : Rob l n t x B r) (k : Rob l n t y C s) : x = y ∧ B = C ∧ r = s := by
  rcases h with ⟨h1, h2, rfl, rfl⟩ | ⟨h1, P, D, u, h2, h3⟩ <;> rcases k with ⟨k1, k2, rfl, rfl⟩ | ⟨k1, Q, E, v, k2, k3⟩
  · exact ⟨rfl, rfl, h1.one k1⟩
  · exact absurd (h1.one k1) h2
  · exact absurd (k1.one h1) k2
  · obtain ⟨rfl, rfl, rfl⟩ := h2.one hl k2
    rcases h3 with ⟨a1, rfl, rfl, rfl⟩ | ⟨a1, rfl, rfl, rfl⟩ <;> rcases k3 with ⟨b1, rfl, rfl, rfl⟩ | ⟨b1, rfl, rfl, rfl⟩
    · exact ⟨rfl, rfl, rfl⟩
    · exact absurd b1 a1
    · exact absurd a1 b1
    · exact ⟨rfl, rfl, rfl⟩
/-- Number j of each row, as shares. -/
def colS (l : List (Int × List Int)) (j n : Nat) : List (Int × Int) := (List.range n).map fun r => (ta l r, (tc l r).getD j 0)
theorem colS_getD (l : List (Int × List Int)) (j : Nat) {n r : Nat} (h : r < n) : (colS l j n).getD r (0, 0) = (ta l r, (tc l r).getD j 0) := by simp [colS, h]
theorem colS_dis {l : List (Int × List Int)} {n : Nat} (h : dis (ta l) n) (j : Nat) : dis (fa (colS l j n)) n := fun i hi => by
  have e : ∀ q, q < n → fa (colS l j n) q = ta l q := fun q hq => by unfold fa; rw [colS_getD l j hq]
  rw [e i hi]
  exact ⟨(h i hi).1, fun q hq => by rw [e q (by omega)]; exact (h i hi).2 q hq⟩
theorem colS_hs {l : List (Int × List Int)} {j n m : Nat} {p : List Int} (hm : m ≤ n) : Hs (colS l j n) m p ↔ ∀ r, r < m → nm (ev p (ta l r)) = nm ((tc l r).getD j 0) := by
  constructor
  · intro h r hr
    have := h r hr
    rwa [colS_getD l j (by omega)] at this
  · intro h r hr
    rw [colS_getD l j (by omega)]
    exact h r hr
end
section
open Crm Go.RowKit
/-- The slice reads as the gates G. -/
structure RdG (w : World) (a : Option Addr) (n c : Nat) (G : List Gt) : Prop where
  len : G.length = n
  cap : n ≤ c
  max : c ≤ maxLen
  nil : a = none → c = 0
  bd : ∀ i, i < n → (-9223372036854775808 ≤ (gt G i).k ∧ (gt G i).k ≤ 9223372036854775807) ∧ (-9223372036854775808 ≤ (gt G i).a ∧ (gt G i).a ≤ 9223372036854775807) ∧ (-9223372036854775808 ≤ (gt G i).b ∧ (gt G i).b ≤ 9223372036854775807) ∧ 0 ≤ (gt G i).n ∧ (gt G i).n ≤ 18446744073709551615
  cell : ∀ x, a = some x → ∀ i, i < n → w.cell? (x.add (i * 4)) = some (.int .i64 (gt G i).k) ∧ w.cell? (x.add (i * 4 + 1)) = some (.int .i64 (gt G i).a) ∧ w.cell? (x.add (i * 4 + 2)) = some (.int .i64 (gt G i).b) ∧ w.cell? (x.add (i * 4 + 3)) = some (.int .u64 (gt G i).n)
theorem RdG.at {w : World} {a : Option Addr} {n c : Nat} {G : List Gt} (h : RdG w a n c G) {k : Nat} (hk : k < n) :
    ∃ b o, a = some ⟨b, o, none⟩ ∧ b < w.heap.size ∧ ∀ i, i < n → w.cell? ⟨b, o + i * 4, none⟩ = some (.int .i64 (gt G i).k) ∧ w.cell? ⟨b, o + i * 4 + 1, none⟩ = some (.int .i64 (gt G i).a) ∧ w.cell? ⟨b, o + i * 4 + 2, none⟩ = some (.int .i64 (gt G i).b) ∧ w.cell? ⟨b, o + i * 4 + 3, none⟩ = some (.int .u64 (gt G i).n) := by
  cases ha : a with
  | none => have := h.nil ha; have := h.cap; omega
  | some x =>
    have h0 := (h.cell x ha 0 (by omega)).1
    have hs : x.spot = none := by
      have := spot_none h0
      unfold Addr.add at this
      split at this <;> simp_all
    obtain ⟨b, o, s⟩ := x
    simp only at hs
    subst hs
    refine ⟨b, o, rfl, ?_, fun i hi => by have := h.cell _ ha i hi; rwa [Addr.add_lit, Addr.add_lit, Addr.add_lit, Addr.add_lit, ← Nat.add_assoc, ← Nat.add_assoc, ← Nat.add_assoc] at this⟩
    have := World.block_lt_of_cell? w _ h0
    rwa [Addr.add_lit] at this
/-- One gate of it, by names of its own. -/
theorem RdG.one {w : World} {a : Option Addr} {n c : Nat} {G : List Gt} (h : RdG w a n c G) {i : Nat} (hi : i < n) :
    ∃ b o k x y z, a = some ⟨b, o, none⟩ ∧ b < w.heap.size ∧ Hid (gt G i = ⟨k, x, y, z⟩) ∧ (-9223372036854775808 ≤ k ∧ k ≤ 9223372036854775807) ∧ (-9223372036854775808 ≤ x ∧ x ≤ 9223372036854775807) ∧ (-9223372036854775808 ≤ y ∧ y ≤ 9223372036854775807) ∧ (0 ≤ z ∧ z ≤ 18446744073709551615) ∧
      w.cell? ⟨b, o + i * 4, none⟩ = some (.int .i64 k) ∧ w.cell? ⟨b, o + i * 4 + 1, none⟩ = some (.int .i64 x) ∧ w.cell? ⟨b, o + i * 4 + 2, none⟩ = some (.int .i64 y) ∧ w.cell? ⟨b, o + i * 4 + 3, none⟩ = some (.int .u64 z) := by
  obtain ⟨b, o, ha, hb, hr⟩ := h.at hi
  obtain ⟨c1, c2, c3, c4⟩ := hr i hi
  obtain ⟨d1, d2, d3, d4⟩ := h.bd i hi
  exact ⟨b, o, _, _, _, _, ha, hb, rfl, d1, d2, d3, d4, c1, c2, c3, c4⟩
theorem RdG.below {w w' : World} {a : Option Addr} {n c : Nat} {G : List Gt} (h : RdG w a n c G) (hb : Below w.heap.size w w') : RdG w' a n c G := by
  refine ⟨h.len, h.cap, h.max, h.nil, h.bd, fun x hx i hi => ?_⟩
  obtain ⟨c1, c2, c3, c4⟩ := h.cell x hx i hi
  exact ⟨by rw [hb.cell (World.block_lt_of_cell? w _ c1)]; exact c1, by rw [hb.cell (World.block_lt_of_cell? w _ c2)]; exact c2, by rw [hb.cell (World.block_lt_of_cell? w _ c3)]; exact c3, by rw [hb.cell (World.block_lt_of_cell? w _ c4)]; exact c4⟩
theorem RdG.drew {w : World} {a : Option Addr} {n c : Nat} {G : List Gt} (h : RdG w a n c G) : RdG w.drew a n c G := ⟨h.len, h.cap, h.max, h.nil, h.bd, h.cell⟩
theorem RdG.drewN {w : World} {a : Option Addr} {n c : Nat} {G : List Gt} (h : RdG w a n c G) (q : Nat) : RdG (w.drewN q) a n c G := ⟨h.len, h.cap, h.max, h.nil, h.bd, h.cell⟩
def shw (k : Nat) : ByteArray := ([⟨#[]⟩, ⟨#[105, 110, 112, 117, 116]⟩, ⟨#[99, 111, 110, 115, 116]⟩, ⟨#[97, 100, 100]⟩, ⟨#[115, 117, 98]⟩, ⟨#[109, 117, 108]⟩, ⟨#[115, 99, 97, 108, 101]⟩] : List ByteArray).getD k ⟨#[]⟩
def shA (k : Nat) : Bool := [false, true, false, true, true, true, true].getD k false
def shB (k : Nat) : Bool := [false, false, false, true, true, true, false].getD k false
def shN (k : Nat) : Bool := [false, false, true, false, false, false, true].getD k false
/-- The shapes lie as the text lays them. -/
def Shp (w : World) : Prop := ∀ i, i < 7 → w.cell? ⟨0, i * 4, none⟩ = some (.string (shw i)) ∧ w.cell? ⟨0, i * 4 + 1, none⟩ = some (.bool (shA i)) ∧ w.cell? ⟨0, i * 4 + 2, none⟩ = some (.bool (shB i)) ∧ w.cell? ⟨0, i * 4 + 3, none⟩ = some (.bool (shN i))
theorem Shp.below {w w' : World} (h : Shp w) (hb : Below w.heap.size w w') : Shp w' := fun i hi => by
  obtain ⟨h0, h1, h2, h3⟩ := h i hi
  exact ⟨by rw [hb.cell (World.block_lt_of_cell? w _ h0)]; exact h0, by rw [hb.cell (World.block_lt_of_cell? w _ h1)]; exact h1, by rw [hb.cell (World.block_lt_of_cell? w _ h2)]; exact h2, by rw [hb.cell (World.block_lt_of_cell? w _ h3)]; exact h3⟩
theorem Shp.drewN {w : World} (h : Shp w) (q : Nat) : Shp (w.drewN q) := h
theorem Shp.lt {w : World} (h : Shp w) : 0 < w.heap.size := World.block_lt_of_cell? w _ (h 0 (by omega)).1
theorem Shp.at1 {w : World} (h : Shp w) : w.cell? ⟨0, 4, none⟩ = some (.string ⟨#[105, 110, 112, 117, 116]⟩) ∧ w.cell? ⟨0, 5, none⟩ = some (.bool true) ∧ w.cell? ⟨0, 6, none⟩ = some (.bool false) ∧ w.cell? ⟨0, 7, none⟩ = some (.bool false) := h 1 (by omega)
theorem Shp.at2 {w : World} (h : Shp w) : w.cell? ⟨0, 8, none⟩ = some (.string ⟨#[99, 111, 110, 115, 116]⟩) ∧ w.cell? ⟨0, 9, none⟩ = some (.bool false) ∧ w.cell? ⟨0, 10, none⟩ = some (.bool false) ∧ w.cell? ⟨0, 11, none⟩ = some (.bool true) := h 2 (by omega)
theorem Shp.at3 {w : World} (h : Shp w) : w.cell? ⟨0, 12, none⟩ = some (.string ⟨#[97, 100, 100]⟩) ∧ w.cell? ⟨0, 13, none⟩ = some (.bool true) ∧ w.cell? ⟨0, 14, none⟩ = some (.bool true) ∧ w.cell? ⟨0, 15, none⟩ = some (.bool false) := h 3 (by omega)
theorem Shp.at4 {w : World} (h : Shp w) : w.cell? ⟨0, 16, none⟩ = some (.string ⟨#[115, 117, 98]⟩) ∧ w.cell? ⟨0, 17, none⟩ = some (.bool true) ∧ w.cell? ⟨0, 18, none⟩ = some (.bool true) ∧ w.cell? ⟨0, 19, none⟩ = some (.bool false) := h 4 (by omega)
theorem Shp.at5 {w : World} (h : Shp w) : w.cell? ⟨0, 20, none⟩ = some (.string ⟨#[109, 117, 108]⟩) ∧ w.cell? ⟨0, 21, none⟩ = some (.bool true) ∧ w.cell? ⟨0, 22, none⟩ = some (.bool true) ∧ w.cell? ⟨0, 23, none⟩ = some (.bool false) := h 5 (by omega)
theorem Shp.at6 {w : World} (h : Shp w) : w.cell? ⟨0, 24, none⟩ = some (.string ⟨#[115, 99, 97, 108, 101]⟩) ∧ w.cell? ⟨0, 25, none⟩ = some (.bool true) ∧ w.cell? ⟨0, 26, none⟩ = some (.bool false) ∧ w.cell? ⟨0, 27, none⟩ = some (.bool true) := h 6 (by omega)
end
end Go.Proofs.YtljlioglpaogdagDoor
