/- A list of numbers that was gathered and is then written in place (Oc); the lists that croftref.Leads gathers (Bas). -/
import Derived.Test.YtcfegjmmicgagaaOwnC
import Derived.Test.YtcfegjmmicgagaaPolyM2
namespace Go.Proofs.Ytcfegjmmicgagaa
open Go.RowKit Crm

structure Oc (w : World) (B : Nat) (a : Option Addr) (r c : Nat) (L : List Int) : Prop where
  len : L.length = r
  cap : r ≤ c
  max : c ≤ maxLen
  bd : ∀ x ∈ L, 0 ≤ x ∧ x ≤ 2147483646
  nil : a = none → c = 0
  blk : ∀ x, a = some x → ∃ (g : Nat) (cur : Array Value), x = ⟨g, 0, none⟩ ∧ B ≤ g ∧ w.heap[g]? = some (.cells cur 22 (0, 0)) ∧ cur.size = c ∧ ∀ i, i < r → cur[i]? = some (.int .u64 (L.getD i 0))

theorem Oc.of_own {w : World} {B r : Nat} {v : Value} {L : List Int} (h : w.ownsRow B 22 1 v r (L.map (Value.int .u64))) (hb : ∀ x ∈ L, 0 ≤ x ∧ x ≤ 2147483646) : ∃ a c, v = .slice a r c ∧ Oc w B a r c L := by
  have hl : L.length = r := by simpa using h.1
  rcases h.2 with ⟨rfl, rfl⟩ | ⟨g, cap, cur, rfl, h1, hg, h2, h3, hs, ht⟩
  · exact ⟨none, 0, rfl, hl, Nat.le_refl _, Nat.zero_le _, hb, fun _ => rfl, by simp⟩
  · refine ⟨_, _, rfl, hl, h2, h3, hb, by simp, fun x hx => ?_⟩
    obtain rfl := Option.some.inj hx
    refine ⟨g, cur, rfl, h1, hg, by omega, fun i hi => ?_⟩
    have h4 : (cur.toList.take (r * 1))[i]? = some (.int .u64 (L.getD i 0)) := by
      rw [ht]; simp [List.getElem?_eq_getElem (show i < L.length by omega)]
    rw [List.getElem?_take] at h4
    split at h4
    · simpa using h4
    · cases h4
theorem Oc.at_ {w : World} {B : Nat} {a : Option Addr} {r c : Nat} {L : List Int} (h : Oc w B a r c L) {k : Nat} (hk : k < r) : ∃ g, a = some ⟨g, 0, none⟩ ∧ B ≤ g ∧ g < w.heap.size ∧ w.frozen? ⟨g, k, none⟩ = false ∧ w.cell? ⟨g, k, none⟩ = some (.int .u64 (L.getD k 0)) := by
  cases ha : a with
  | none => have := h.nil ha; have := h.cap; omega
  | some x =>
    obtain ⟨g, cur, rfl, hb, hg, hs, hc⟩ := h.blk x ha
    exact ⟨g, rfl, hb, (Array.getElem?_eq_some_iff.1 hg).1, frozen_of_row w g k _ _ hg, by rw [cell_of_row w g k _ _ (0, 0) hg]; exact hc k hk⟩
theorem Oc.nbd {w : World} {B : Nat} {a : Option Addr} {r c : Nat} {L : List Int} (h : Oc w B a r c L) (k : Nat) : 0 ≤ L.getD k 0 ∧ L.getD k 0 ≤ 2147483646 := getD_bd' h.bd k
theorem Oc.below {w : World} {B : Nat} {a : Option Addr} {r c : Nat} {L : List Int} (h : Oc w B a r c L) {w' : World} (hb : Below w.heap.size w w') : Oc w' B a r c L := by
  refine ⟨h.len, h.cap, h.max, h.bd, h.nil, fun x hx => ?_⟩
  obtain ⟨g, cur, h1, h2, h3, h4⟩ := h.blk x hx
  exact ⟨g, cur, h1, h2, by rw [hb.block g (Array.getElem?_eq_some_iff.1 h3).1]; exact h3, h4⟩
theorem Oc.drew {w : World} {B : Nat} {a : Option Addr} {r c : Nat} {L : List Int} (h : Oc w B a r c L) : Oc w.drew B a r c L := ⟨h.len, h.cap, h.max, h.bd, h.nil, h.blk⟩
theorem Oc.set {w : World} {B : Nat} {a : Option Addr} {r c : Nat} {L : List Int} (h : Oc w B a r c L) {g k : Nat} (ha : a = some ⟨g, 0, none⟩) {v : Int} (hv : 0 ≤ v ∧ v ≤ 2147483646) : Oc (w.setCell ⟨g, k, none⟩ (.int .u64 v)) B a r c (L.set k v) := by
  refine ⟨by rw [List.length_set]; exact h.len, h.cap, h.max, fun x hx => ?_, h.nil, fun x hx => ?_⟩
  · rcases List.mem_or_eq_of_mem_set hx with h1 | h1
    · exact h.bd x h1
    · rw [h1]; exact hv
  · obtain ⟨g', cur, h1, h2, h3, h4, h5⟩ := h.blk x hx
    rw [ha] at hx
    obtain rfl := Option.some.inj hx
    simp only [Addr.mk.injEq, and_true] at h1
    subst h1
    refine ⟨g, _, rfl, h2, heap_setCell_same w g k _ _ _ h3, by simpa using h4, fun i hi => ?_⟩
    rw [Array.getElem?_setIfInBounds, getD_set]
    have hcp := h.cap
    have hln := h.len
    by_cases e : k = i
    · subst e; simp [h4, hln, hi]; omega
    · rw [if_neg e, if_neg (fun hh => e hh.1)]; exact h5 i hi
theorem Oc.rd {w : World} {B : Nat} {a : Option Addr} {r c : Nat} {L : List Int} (h : Oc w B a r c L) : Rd w a r c L := by
  refine ⟨h.len, h.cap, h.max, bd_u64 h.bd, h.nil, fun x hx i hi => ?_⟩
  obtain ⟨g, cur, rfl, h2, h3, h4, h5⟩ := h.blk x hx
  rw [Addr.add_lit, Nat.zero_add, cell_of_row w g i _ _ (0, 0) h3]
  exact h5 i hi

/-- The three lists of croftref.Leads, with m elements each: leads, basis, at. -/
structure Bas (w : World) (B r m : Nat) (vL vB vA : Value) (L at_ : List Nat) (bs : List Value) (BB : List (List Int)) : Prop where
  oL : w.ownsRow B 3 1 vL m (ins L)
  oB : w.ownsRow B 29 1 vB m bs
  oA : w.ownsRow B 3 1 vA m (ins at_)
  dLB : ∀ k, vL.ownBlock = some k → vB.ownBlock ≠ some k
  dLA : ∀ k, vL.ownBlock = some k → vA.ownBlock ≠ some k
  dBA : ∀ k, vB.ownBlock = some k → vA.ownBlock ≠ some k
  lb : BB.length = m
  row : ∀ q, q < m → ∃ g c, bs[q]? = some (.slice (some ⟨g, 0, none⟩) r c) ∧ B ≤ g ∧ g < w.heap.size ∧ vL.ownBlock ≠ some g ∧ vB.ownBlock ≠ some g ∧ vA.ownBlock ≠ some g ∧ Rd w (some ⟨g, 0, none⟩) r c (BB.getD q [])

theorem bas_nil (w : World) (B r : Nat) : Bas w B r 0 (.slice none 0 0) (.slice none 0 0) (.slice none 0 0) [] [] [] [] :=
  ⟨World.ownsRow_nil _ _ _ _, World.ownsRow_nil _ _ _ _, World.ownsRow_nil _ _ _ _, by simp [Value.ownBlock], by simp [Value.ownBlock], by simp [Value.ownBlock], rfl, fun q hq => by omega⟩
theorem Bas.below {w w' : World} {B r m : Nat} {vL vB vA : Value} {L at_ : List Nat} {bs : List Value} {BB : List (List Int)} (h : Bas w B r m vL vB vA L at_ bs BB) (hb : Below w.heap.size w w') : Bas w' B r m vL vB vA L at_ bs BB :=
  ⟨own_below h.oL hb, own_below h.oB hb, own_below h.oA hb, h.dLB, h.dLA, h.dBA, h.lb, fun q hq => by
    obtain ⟨g, c, h1, h2, h3, h4, h5, h6, h7⟩ := h.row q hq
    exact ⟨g, c, h1, h2, Nat.lt_of_lt_of_le h3 hb.size, h4, h5, h6, h7.below hb⟩⟩
theorem own_kept {w w' : World} {base n : Nat} {E : TypeId} {v u : Value} {xs : List Value} (h : w.ownsRow base E 1 v n xs) (hg : w.grownBy w' u.ownBlock) (hd : ∀ k, v.ownBlock = some k → u.ownBlock ≠ some k) : w'.ownsRow base E 1 v n xs := by
  refine h.kept hg ?_
  cases hv : v.ownBlock with
  | none => exact .inl rfl
  | some k => exact .inr fun e => hd k hv e.symm

theorem getD_snoc_old {BB : List (List Int)} {b : List Int} {k : Nat} (h : k < BB.length) : (BB ++ [b]).getD k [] = BB.getD k [] := by simp [List.getElem?_append_left h]
theorem getD_snoc_new (BB : List (List Int)) (b : List Int) : (BB ++ [b]).getD BB.length [] = b := by simp

/-- One more element in each of the three lists. -/
theorem Bas.add {w w1 w2 w3 : World} {B r m : Nat} {vL vB vA vL' vB' vA' : Value} {L at_ : List Nat} {bs : List Value} {BB : List (List Int)} (h : Bas w B r m vL vB vA L at_ bs BB)
    {g0 c0 p c : Nat} {col : List Int} (hg0 : B ≤ g0) (hL0 : vL.ownBlock ≠ some g0) (hB0 : vB.ownBlock ≠ some g0) (hA0 : vA.ownBlock ≠ some g0) (hcol : Rd w (some ⟨g0, 0, none⟩) r c0 col) (hlt : g0 < w.heap.size)
    (s1 : w1.ownsRow B 29 1 vB' (m + 1) (bs ++ [.slice (some ⟨g0, 0, none⟩) r c0])) (g1 : w.grownBy w1 vB.ownBlock) (b1 : vB'.ownBlock = vB.ownBlock ∨ ∃ k, vB'.ownBlock = some k ∧ w.heap.size ≤ k)
    (s2 : w2.ownsRow B 3 1 vA' (m + 1) (ins (at_ ++ [p]))) (g2 : w1.grownBy w2 vA.ownBlock) (b2 : vA'.ownBlock = vA.ownBlock ∨ ∃ k, vA'.ownBlock = some k ∧ w1.heap.size ≤ k)
    (s3 : w3.ownsRow B 3 1 vL' (m + 1) (ins (L ++ [c]))) (g3 : w2.grownBy w3 vL.ownBlock) (b3 : vL'.ownBlock = vL.ownBlock ∨ ∃ k, vL'.ownBlock = some k ∧ w2.heap.size ≤ k) :
    Bas w3 B r (m + 1) vL' vB' vA' (L ++ [c]) (at_ ++ [p]) (bs ++ [.slice (some ⟨g0, 0, none⟩) r c0]) (BB ++ [col]) := by
  have z1 := g1.size
  have z2 := g2.size
  have z3 := g3.size
  have lL := fun k hk => (h.oL.lt k hk).2
  have lB := fun k hk => (h.oB.lt k hk).2
  have lA := fun k hk => (h.oA.lt k hk).2
  have lB1 := fun k hk => (s1.lt k hk).2
  have lA2 := fun k hk => (s2.lt k hk).2
  -- blocks of the lists behind the three steps
  have eB : ∀ k, vB'.ownBlock = some k → vB.ownBlock = some k ∨ w.heap.size ≤ k := fun k hk => by
    rcases b1 with e | ⟨j, e, hj⟩
    · exact .inl (e ▸ hk)
    · rw [e] at hk; obtain rfl := Option.some.inj hk; exact .inr hj
  have eA : ∀ k, vA'.ownBlock = some k → vA.ownBlock = some k ∨ w1.heap.size ≤ k := fun k hk => by
    rcases b2 with e | ⟨j, e, hj⟩
    · exact .inl (e ▸ hk)
    · rw [e] at hk; obtain rfl := Option.some.inj hk; exact .inr hj
  have eL : ∀ k, vL'.ownBlock = some k → vL.ownBlock = some k ∨ w2.heap.size ≤ k := fun k hk => by
    rcases b3 with e | ⟨j, e, hj⟩
    · exact .inl (e ▸ hk)
    · rw [e] at hk; obtain rfl := Option.some.inj hk; exact .inr hj
  have hLB' : ∀ k, vL.ownBlock = some k → vB'.ownBlock ≠ some k := fun k hk e => by
    rcases eB k e with e1 | e1
    · exact h.dLB k hk e1
    · have := lL k hk; omega
  have hLA' : ∀ k, vL.ownBlock = some k → vA'.ownBlock ≠ some k := fun k hk e => by
    rcases eA k e with e1 | e1
    · exact h.dLA k hk e1
    · have := lL k hk; omega
  have hB'A : ∀ k, vB'.ownBlock = some k → vA.ownBlock ≠ some k := fun k hk e => by
    rcases eB k hk with e1 | e1
    · exact h.dBA k e1 e
    · have := lA k e; omega
  have keep : ∀ g c xs, g < w.heap.size → vL.ownBlock ≠ some g → vB.ownBlock ≠ some g → vA.ownBlock ≠ some g → Rd w (some ⟨g, 0, none⟩) r c xs → vL'.ownBlock ≠ some g ∧ vB'.ownBlock ≠ some g ∧ vA'.ownBlock ≠ some g ∧ Rd w3 (some ⟨g, 0, none⟩) r c xs := fun g c xs hg hl hb ha hr => by
    refine ⟨fun e => ?_, fun e => ?_, fun e => ?_, ?_⟩
    · rcases eL g e with e1 | e1
      · exact hl e1
      · omega
    · rcases eB g e with e1 | e1
      · exact hb e1
      · omega
    · rcases eA g e with e1 | e1
      · exact ha e1
      · omega
    · refine ((hr.grown g1 fun x hx => ?_).grown g2 fun x hx => ?_).grown g3 fun x hx => ?_ <;> obtain rfl := Option.some.inj hx
      · exact fun e => hb e.symm
      · exact fun e => ha e.symm
      · exact fun e => hl e.symm
  refine ⟨s3, own_kept (own_kept s1 g2 hB'A) g3 (fun k hk e => hLB' k e hk), own_kept s2 g3 (fun k hk e => hLA' k e hk), fun k hk e => ?_, fun k hk e => ?_, fun k hk e => ?_, by simp [h.lb], fun q hq => ?_⟩
  · rcases eL k hk with e1 | e1
    · exact hLB' k e1 e
    · have := lB1 k e; omega
  · rcases eL k hk with e1 | e1
    · exact hLA' k e1 e
    · have := lA2 k e; omega
  · rcases eA k e with e1 | e1
    · exact hB'A k hk e1
    · have := lB1 k hk; omega
  · have hbl : bs.length = m := by simpa using h.oB.1
    by_cases e : q < m
    · obtain ⟨g, c1, h1, h2, h3, h4, h5, h6, h7⟩ := h.row q e
      obtain ⟨k1, k2, k3, k4⟩ := keep g c1 _ h3 h4 h5 h6 h7
      refine ⟨g, c1, by rw [List.getElem?_append_left (by omega)]; exact h1, h2, by omega, k1, k2, k3, ?_⟩
      rw [getD_snoc_old (by rw [h.lb]; exact e)]; exact k4
    · obtain ⟨k1, k2, k3, k4⟩ := keep g0 c0 _ hlt hL0 hB0 hA0 hcol
      have hq2 : q = m := by omega
      refine ⟨g0, c0, by rw [hq2, ← hbl]; simp, hg0, by omega, k1, k2, k3, ?_⟩
      rw [hq2, ← h.lb, getD_snoc_new]; exact k4
end Go.Proofs.Ytcfegjmmicgagaa
