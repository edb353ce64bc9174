/- croftref.Outs: gates that are copied and written; wires as a map: plain facts and lists of gates. · croftref.Pieces. · Slices of texts that are read; croftref.Numbers. -/
import Derived.Test.YtljlioglpaogdahDoorToWhoseC
import Derived.Test.YtljlioglpaogdahDoorMath
import Derived.Maps.OwnOps
import Derived.Maps.OwnSet
import Derived.Deep.RegionHeld3
import Derived.Deep.RegionLaw
import Derived.Test.YtljlioglpaogdahDoorProg
import Derived.WalkKit
import Derived.WalkSpells
import Derived.WalkLawsBesides
import Derived.Laws.DeepStrings4
namespace Go.Proofs.YtljlioglpaogdahDoor
set_option linter.unusedVariables false
set_option maxRecDepth 100000
set_option maxHeartbeats 8000000
section
open Crm Go.Maps Go.RowKit
/-- The cells of gates. -/
def gcs (G : List Gt) : List Value := G.flatMap fun g => [.int .i64 g.k, .int .i64 g.a, .int .i64 g.b, .int .u64 g.n]
theorem gcs_get : ∀ (G : List Gt) (i : Nat), i < G.length → (gcs G)[i * 4]? = some (.int .i64 (gt G i).k) ∧ (gcs G)[i * 4 + 1]? = some (.int .i64 (gt G i).a) ∧ (gcs G)[i * 4 + 2]? = some (.int .i64 (gt G i).b) ∧ (gcs G)[i * 4 + 3]? = some (.int .u64 (gt G i).n)
  | [], i, h => by simp at h
  | p :: l, 0, _ => ⟨rfl, rfl, rfl, rfl⟩
  | p :: l, i + 1, h => by
    have := gcs_get l i (by simpa using h)
    have e1 : (i + 1) * 4 = i * 4 + 1 + 1 + 1 + 1 := by omega
    rw [e1]
    exact this
/-- Gates that a call has made its own. -/
theorem RdG.own {w : World} {base n c g : Nat} {E : TypeId} {G : List Gt} (h : w.ownsRow base E 4 (.slice (some ⟨g, 0, none⟩) n c) n (gcs G)) (hl : G.length = n)
    (hb : ∀ i, i < n → (-9223372036854775808 ≤ (gt G i).k ∧ (gt G i).k ≤ 9223372036854775807) ∧ (-9223372036854775808 ≤ (gt G i).a ∧ (gt G i).a ≤ 9223372036854775807) ∧ (-9223372036854775808 ≤ (gt G i).b ∧ (gt G i).b ≤ 9223372036854775807) ∧ 0 ≤ (gt G i).n ∧ (gt G i).n ≤ 18446744073709551615) : RdG w (some ⟨g, 0, none⟩) n c G := by
  rcases h.2 with ⟨e, _⟩ | ⟨g', cap, cur, e, hbb, hg, h1, h2, hs, ht⟩
  · simp at e
  · simp only [Value.slice.injEq, Option.some.injEq, Addr.mk.injEq, and_true, true_and] at e
    obtain ⟨rfl, rfl⟩ := e
    refine ⟨hl, h1, h2, by simp, hb, fun x hx i hi => ?_⟩
    obtain rfl := Option.some.inj hx
    obtain ⟨e1, e2, e3, e4⟩ := gcs_get G i (by omega)
    exact ⟨h.cells (g := g) rfl _ _ e1, h.cells (g := g) rfl _ _ e2, h.cells (g := g) rfl _ _ e3, h.cells (g := g) rfl _ _ e4⟩
theorem own_atZ {w : World} {base n z : Nat} {E : TypeId} {v : Value} {xs : List Value} (h : w.ownsRow base E z v n xs) (hn : 0 < n) : ∃ g c, v = .slice (some ⟨g, 0, none⟩) n c ∧ base ≤ g ∧ g < w.heap.size ∧ n ≤ c ∧ c ≤ maxLen := by
  rcases h.2 with ⟨_, rfl⟩ | ⟨g, cap, cur, rfl, hb, hg, h1, h2, _⟩
  · omega
  · exact ⟨g, cap, rfl, hb, (Array.getElem?_eq_some_iff.1 hg).1, h1, h2⟩
theorem CBox.grown {w w' : World} {g : Nat} {r : Option Nat} {ag : Option Addr} {n cg : Nat} {ao : Option Addr} {m co : Nat} (h : CBox w g ag n cg ao m co) (hg : w.grownBy w' r) (hr : some g ≠ r) : CBox w' g ag n cg ao m co := by
  unfold CBox; rw [hg.block g h.lt hr]; exact h
end
section
open Crm Go.RowKit
def mt : ByteArray := ⟨#[]⟩
def strs (L : List ByteArray) : List Value := L.map Value.string
theorem strs_len (L : List ByteArray) : (strs L).length = L.length := by simp [strs]
/-- Pieces of the first k bytes. -/
def pcs (s : ByteArray) (b : Int) : Nat → List ByteArray
  | 0 => [mt]
  | k + 1 => if bt s k = b then pcs s b k ++ [mt] else (pcs s b k).set ((pcs s b k).length - 1) ((pcs s b k).getD ((pcs s b k).length - 1) mt ++ s.extract k (k + 1))
theorem pcs_len (s : ByteArray) (b : Int) : ∀ k, 1 ≤ (pcs s b k).length ∧ (pcs s b k).length ≤ k + 1
  | 0 => by simp [pcs]
  | k + 1 => by
    have := pcs_len s b k
    rw [pcs]
    split
    · simp; omega
    · simp; omega
theorem pcs_size (s : ByteArray) (b : Int) : ∀ k, ∀ x ∈ pcs s b k, x.size ≤ k
  | 0, x, hx => by simp [pcs] at hx; subst hx; exact Nat.le_refl 0
  | k + 1, x, hx => by
    have ih := pcs_size s b k
    rw [pcs] at hx
    split at hx
    · rcases List.mem_append.1 hx with h | h
      · have := ih x h; omega
      · simp at h; subst h; exact Nat.zero_le _
    · rcases List.mem_or_eq_of_mem_set hx with h | rfl
      · have := ih x h; omega
      · have hl := pcs_len s b k
        have h1 : (pcs s b k).getD ((pcs s b k).length - 1) mt ∈ pcs s b k := by
          rw [List.getD_eq_getElem?_getD, List.getElem?_eq_getElem (by omega)]
          exact List.getElem_mem _
        have h2 := ih _ h1
        rw [ByteArray.size_append, ByteArray.size_extract]
        omega
theorem own_cellZ {w : World} {B n c g z : Nat} {E : TypeId} {xs : List Value} (h : w.ownsRow B E z (.slice (some ⟨g, 0, none⟩) n c) n xs) {i : Nat} {u : Value} (hi : xs[i]? = some u) : w.cell? ⟨g, i, none⟩ = some u := by
  have := h.cells (g := g) rfl _ _ hi
  rwa [Addr.add_lit, Nat.zero_add] at this
def tx (L : List ByteArray) (i : Nat) : ByteArray := L.getD i mt
/-- The slice reads as the texts L, none too great. -/
structure RdT (w : World) (a : Option Addr) (n c : Nat) (L : List ByteArray) : Prop where
  len : L.length = n
  cap : n ≤ c
  max : c ≤ maxLen
  nil : a = none → c = 0
  bd : ∀ i, i < n → (tx L i).size ≤ 9223372036854775807
  cell : ∀ x, a = some x → ∀ i, i < n → w.cell? (x.add i) = some (.string (tx L i))
theorem RdT.one {w : World} {a : Option Addr} {n c : Nat} {L : List ByteArray} (h : RdT w a n c L) {k : Nat} (hk : k < n) :
    ∃ b o x, a = some ⟨b, o, none⟩ ∧ b < w.heap.size ∧ Hid (tx L k = x) ∧ x.size ≤ 9223372036854775807 ∧ w.cell? ⟨b, o + k, none⟩ = some (.string x) := by
  cases ha : a with
  | none => have := h.nil ha; have := h.cap; omega
  | some x =>
    have h0 := h.cell x ha k hk
    have hs : x.spot = none := by
      have := spot_none (h.cell x ha 0 (by omega))
      unfold Addr.add at this
      split at this <;> simp_all
    obtain ⟨b, o, s⟩ := x
    simp only at hs
    subst hs
    rw [Addr.add_lit] at h0
    exact ⟨b, o, _, rfl, World.block_lt_of_cell? w _ h0, rfl, h.bd k hk, h0⟩
theorem RdT.below {w w' : World} {a : Option Addr} {n c : Nat} {L : List ByteArray} (h : RdT w a n c L) (hb : Below w.heap.size w w') : RdT w' a n c L := by
  refine ⟨h.len, h.cap, h.max, h.nil, h.bd, fun x hx i hi => ?_⟩
  have := h.cell x hx i hi
  rw [hb.cell (World.block_lt_of_cell? w _ this)]
  exact this
theorem strs_at {L : List ByteArray} {i : Nat} (h : i < L.length) : (strs L)[i]? = some (.string (tx L i)) := by
  simp [strs, tx, h]
/-- Texts that a call has made its own. -/
theorem RdT.own {w : World} {base n : Nat} {E : TypeId} {v : Value} {L : List ByteArray} (h : w.ownsRow base E 1 v n (strs L)) (hn : 0 < n) (hb : ∀ x ∈ L, x.size ≤ 9223372036854775807) : ∃ g c, v = .slice (some ⟨g, 0, none⟩) n c ∧ base ≤ g ∧ RdT w (some ⟨g, 0, none⟩) n c L := by
  obtain ⟨g, c, rfl, hg, _, h1, h2⟩ := own_atZ h hn
  have hl : L.length = n := by have := h.1; rw [strs_len] at this; omega
  refine ⟨g, c, rfl, hg, hl, h1, h2, by simp, fun i hi => ?_, fun x hx i hi => ?_⟩
  · refine hb _ ?_
    unfold tx
    rw [List.getD_eq_getElem?_getD, List.getElem?_eq_getElem (by omega)]
    exact List.getElem_mem _
  · obtain rfl := Option.some.inj hx
    rw [Addr.add_lit, Nat.zero_add]
    exact own_cellZ h (strs_at (by omega))
/-- All but the first. -/
theorem RdT.tail {w : World} {g o n c : Nat} {L : List ByteArray} (h : RdT w (some ⟨g, o, none⟩) (n + 1) (c + 1) L) : RdT w (some ⟨g, o + 1, none⟩) n c (L.drop 1) := by
  have ht : ∀ i, tx (L.drop 1) i = tx L (i + 1) := fun i => by simp [tx]
  refine ⟨by rw [List.length_drop, h.len]; rfl, by have := h.cap; omega, by have := h.max; omega, by simp, fun i hi => ?_, fun x hx i hi => ?_⟩
  · rw [ht]; exact h.bd _ (by omega)
  · obtain rfl := Option.some.inj hx
    have := h.cell _ rfl (i + 1) (by omega)
    rw [Addr.add_lit] at this ⊢
    rw [ht, ← this]
    congr 2
    omega
/-- The numbers of words. -/
def nbl (L : List ByteArray) (k : Nat) : List Int := (List.range k).map fun i => dgn (tx L i) (tx L i).size
theorem nbl_len (L : List ByteArray) (k : Nat) : (nbl L k).length = k := by simp [nbl]
def okn (L : List ByteArray) (k : Nat) : Prop := ∀ i, i < k → okd (tx L i)
theorem okn_succ {L : List ByteArray} {k : Nat} (h : okn L k) (hk : okd (tx L k)) : okn L (k + 1) := fun i hi => by
  by_cases e : i = k
  · rw [e]; exact hk
  · exact h i (by omega)
theorem okd_bd {s : ByteArray} (h : okd s) : 0 ≤ dgn s s.size ∧ dgn s s.size ≤ 9999999999 := by
  have := dgn_bd h.2.1
  have := ten_le h.1.2
  omega
end
end Go.Proofs.YtljlioglpaogdahDoor
