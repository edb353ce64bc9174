/- croftkeep.crew, filled, shares. · Shares of which a few are bent: plain facts. · Circuits: plain facts. -/
import Derived.Test.YtoifklkdfgfbdagDoorToPadC
import Derived.Test.YtoifklkdfgfbdagDoorToIntsC
import Derived.Test.YtoifklkdfgfbdagDoorToProdC
import Derived.Test.YtoifklkdfgfbdagDoorToShares
namespace Go.Proofs.YtoifklkdfgfbdagDoor
open Go.RowKit Crm

/-- So many parties, of whom k may look together. -/
def Crewed (e : Ending) : Prop := ∃ k m : Nat, e = .returned (.tuple #[.int .i64 k, .int .i64 m]) ∧ k ≤ 4 ∧ 2 * k + 1 ≤ m ∧ m ≤ 9
set_option maxRecDepth 100000 in
theorem kCrew (t n : Int) (w : World) :
    Calls Tryd.prog 9 #[.int .i64 t, .int .i64 n] w fun e w' => Crewed e ∧ w' = w := by
  go_enter Tryd.func9, Tryd.ntmps9
  go_wp2_with fail
  refine (rRest _ 5 _ (by omega) (by omega)).mono ?_
  rintro e w1 ⟨⟨k, hk, rfl⟩, hw⟩
  have hw := hw.symm
  subst hw
  have hd2 : (9 : Int) - 2 * k = ((9 - 2 * k : Nat) : Int) := by omega
  go_wp2_with fail
  refine (rRest _ (9 - 2 * k) _ (by omega) (by omega)).mono ?_
  rintro e w1 ⟨⟨q, hq, rfl⟩, hw⟩
  have hw := hw.symm
  subst hw
  go_wp2
  go_ret2
  exact ⟨⟨k, 2 * k + 1 + q, by go_num, by omega, by omega, by omega⟩, rfl⟩

set_option maxRecDepth 100000 in
theorem kFilledL (a : Option Addr) (n c : Nat) (xs : List Int) (k : Nat) (w : World) (h : Rd w a n c xs) (hk : k ≤ 1000) :
    Calls Tryd.prog 10 #[.slice a n c, .int .i64 k] w fun e w' => ∃ g, e = .returned (.slice (some ⟨g, 0, none⟩) k k) ∧ Rd w' (some ⟨g, 0, none⟩) k k (padded xs k) ∧ Below w.heap.size w w' := by
  obtain ⟨i0, hi, hz0, hz1, hz2⟩ := info_parts info34
  obtain ⟨P, HP⟩ : ∃ P, Hid (padded xs k = P) := ⟨_, rfl⟩
  have HPl : Hid (P.length = k) := by unfold Hid; rw [← HP.out]; exact padded_len xs k
  have HPb : Hid (∀ x ∈ P, 0 ≤ x ∧ x ≤ 18446744073709551615) := by unfold Hid; rw [← HP.out]; exact padded_bd h.bd k
  rw [HP.out]
  obtain ⟨cs, HCS⟩ : ∃ cs, Hid ((xs.take k).map (Value.int .u64) = cs) := ⟨_, rfl⟩
  obtain ⟨cu, HCU⟩ : ∃ cu, Hid ((List.replicate k (0 : Int)).map (Value.int .u64) = cu) := ⟨_, rfl⟩
  have hrl := h.len
  have hcl := copy_len (k := k) hrl
  have h1c := one_ints (xs.take k)
  have hsrcs := fun w' (hh : Rd w' a n c xs) => copy_src hh k
  have HSPL : Hid (Go.splice cu 0 cs = P.map (Value.int .u64)) := by unfold Hid; rw [← HCU.out, ← HCS.out, ← HP.out]; exact padded_splice xs k
  have hcul : cu.length = k := by rw [← HCU.out]; simp
  rw [HCS.out] at hcl h1c hsrcs
  have hcl2 : cs.length ≤ k := by rw [hcl]; exact Nat.min_le_right _ _
  go_enter Tryd.func10, Tryd.ntmps10
  go_wp2_with (first | (at_make; refine wpList_make_full _ rfl _ _ 22 rfl w.heap.size 34 i0 (.int .u64 0) 1 Tryd.underlying22 hi hz0 hz1 .i64 .i64 _ _ k rfl rfl (by omega) (by omega) (by rw [hz2]; omega) (by unfold maxLen; omega) (Nat.le_refl _) ?_; intro w3 hown hgrow; have hb3 : Blk w3 w.heap.size (List.replicate k 0) := Blk.made hown; have hbel3 : Below w.heap.size w w3 := (Below.refl _ _).grown hgrow (Nat.le_refl _) (by simp); have hrow3 := h.below hbel3; unfold Blk at hb3; rw [HCU.out] at hb3; clear hown hgrow) | (refine wpList_copy_splice rfl _ _ 22 22 rfl 34 Tryd.underlying22 (by rw [hi, Option.map_some, hz1]) (some ⟨w.heap.size, 0, none⟩) a k k n c (by rfl) (by rfl) w.heap.size 0 cu 34 hb3 cs hcl (fun hp => ⟨rfl, hsrcs w3 hrow3 hp⟩) (by omega) h1c w.heap.size w hbel3 (Nat.le_refl _) ?_; intro w4 HC4 hbel4))
  have hb4 : Blk w4 w.heap.size P := by unfold Blk; rw [← HSPL.out]; exact HC4.out
  have hr4 : Rd w4 (some ⟨w.heap.size, 0, none⟩) k k P := hb4.whole k HPl.out.symm (by unfold maxLen; omega) HPb.out
  clear HC4 hb3 hbel3 hrow3 hsrcs hcl h1c HCS HCU hcul hcl2 HSPL hb4
  go_wp2
  go_ret
  exact ⟨_, rfl, hr4, hbel4⟩

theorem kFilled (a : Option Addr) (n c : Nat) (xs : List Int) (k : Nat) (w : World) (h : Rd w a n c xs) (hk : k ≤ 4) :
    Calls Tryd.prog 10 #[.slice a n c, .int .i64 k] w fun e w' => ∃ g, e = .returned (.slice (some ⟨g, 0, none⟩) k k) ∧ Rd w' (some ⟨g, 0, none⟩) k k (padded xs k) ∧ Below w.heap.size w w' :=
  kFilledL _ _ _ _ _ _ h (by omega)

/-- Shares of all parties' numbers. -/
def shl (xs : List Int) (n : Nat) : List (Int × Int) := (List.range n).map fun (i : Nat) => ((i : Int) + 1, xs.getD i 0)
theorem shl_len (xs : List Int) (n : Nat) : (shl xs n).length = n := by simp [shl]
theorem shl_snoc (xs : List Int) (n : Nat) {x : Int} (hx : xs.getD n 0 = x) : shl xs n ++ [((n : Int) + 1, x)] = shl xs (n + 1) := by
  unfold shl
  rw [List.range_succ, List.map_append, ← hx]
  rfl
theorem shl_getD (xs : List Int) {n i : Nat} (h : i < n) : (shl xs n).getD i (0, 0) = ((i : Int) + 1, xs.getD i 0) := by simp [shl, h]

end Go.Proofs.YtoifklkdfgfbdagDoor

namespace Go.Proofs.YtoifklkdfgfbdagDoor
open Crm

/-- Shares of a dealing of which at most i are wrong. -/
structure MdT (C : List Int) (m : Nat) (L : List (Int × Int)) (i : Nat) : Prop where
  len : L.length = m
  at_ : ∀ j, j < m → (L.getD j (0, 0)).1 = (j : Int) + 1
  bd : ∀ j, j < m → 0 ≤ (L.getD j (0, 0)).2 ∧ (L.getD j (0, 0)).2 ≤ 18446744073709551615
  few : (bdl L C m).length ≤ i
theorem bdl_none {L : List (Int × Int)} {C : List Int} : ∀ k, (∀ j, j < k → nm (ev C (L.getD j (0, 0)).1) = nm (L.getD j (0, 0)).2) → bdl L C k = []
  | 0, _ => rfl
  | k + 1, h => by rw [bdl_ok (h k (by omega))]; exact bdl_none k fun j hj => h j (by omega)
theorem bdl_set (L : List (Int × Int)) (C : List Int) (q : Nat) (z : Int × Int) (hq : q < L.length) : ∀ k, (bdl (L.set q z) C k).length ≤ (bdl L C k).length + (if q < k then 1 else 0)
  | 0 => by simp [bdl]
  | k + 1 => by
    have ih := bdl_set L C q z hq k
    by_cases e : k = q
    · subst e
      rw [if_neg (by omega)] at ih
      rw [if_pos (by omega)]
      have h1 : (bdl (L.set k z) C (k + 1)).length ≤ (bdl (L.set k z) C k).length + 1 := by
        rw [bdl]; split
        · omega
        · rw [List.length_append]; simp
      have h2 : (bdl L C k).length ≤ (bdl L C (k + 1)).length := by
        rw [bdl]; split
        · omega
        · rw [List.length_append]; omega
      omega
    · have hg : (L.set q z).getD k (0, 0) = L.getD k (0, 0) := by
        rw [List.getD_eq_getElem?_getD, List.getD_eq_getElem?_getD, List.getElem?_set_ne (by omega)]
      have hs : (if q < k + 1 then 1 else 0) = (if q < k then 1 else 0) := by
        by_cases h : q < k
        · rw [if_pos h, if_pos (by omega)]
        · rw [if_neg h, if_neg (by omega)]
      rw [hs, bdl, bdl, hg]
      split
      · exact ih
      · rw [List.length_append, List.length_append]
        have : [(L.getD k (0, 0)).1].length = 1 := rfl
        omega
theorem mdt_start (C : List Int) (m : Nat) : MdT C m (shl (dl C m) m) 0 := by
  refine ⟨shl_len _ _, fun j hj => by rw [shl_getD _ hj], fun j hj => ?_, ?_⟩
  · rw [shl_getD _ hj, dl_getD C hj]; have := dlf_bd C j; exact ⟨this.1, by have := this.2; omega⟩
  · rw [bdl_none m fun j hj => ?_]
    · exact Nat.le_refl _
    · rw [shl_getD _ hj, dl_getD C hj]
      have := dlf_bd C j
      show nm (ev C ((j : Int) + 1)) = nm (dlf C j)
      rw [nm_small this.1 this.2]
      rfl
theorem MdT.step {C : List Int} {m q i : Nat} {L : List (Int × Int)} {y : Int} (h : MdT C m L i) (hq : q < m) (hy : 0 ≤ y ∧ y ≤ 18446744073709551615) : MdT C m (L.set q ((q : Int) + 1, y)) (i + 1) := by
  have hl := h.len
  have hg : ∀ j, j < m → (L.set q ((q : Int) + 1, y)).getD j (0, 0) = if j = q then ((q : Int) + 1, y) else L.getD j (0, 0) := fun j hj => by
    by_cases e : j = q
    · subst e
      rw [if_pos rfl, List.getD_eq_getElem?_getD, List.getElem?_set_self (by omega)]
      rfl
    · rw [if_neg e, List.getD_eq_getElem?_getD, List.getD_eq_getElem?_getD, List.getElem?_set_ne (by omega)]
  refine ⟨by rw [List.length_set]; exact hl, fun j hj => ?_, fun j hj => ?_, ?_⟩
  · rw [hg j hj]
    split
    · rename_i e; subst e; rfl
    · exact h.at_ j hj
  · rw [hg j hj]
    split
    · exact hy
    · exact h.bd j hj
  · have := bdl_set L C q ((q : Int) + 1, y) (by omega) m
    have := h.few
    rw [if_pos hq] at *
    omega
theorem MdT.dis {C : List Int} {m i : Nat} {L : List (Int × Int)} (h : MdT C m L i) (hm : m ≤ 9) : dis (fa L) m := fun i hi => by
  have e : ∀ j, j < m → fa L j = (j : Int) + 1 := fun j hj => h.at_ j hj
  rw [e i hi]
  exact ⟨⟨by omega, by omega⟩, fun j hj => by rw [e j (by omega)]; omega⟩
theorem MdT.srt {C : List Int} {m i : Nat} {L : List (Int × Int)} (h : MdT C m L i) : ∀ k, k ≤ m → (∀ x ∈ bdl L C k, x ≤ (k : Int)) ∧ ∀ p q, p < q → q < (bdl L C k).length → (bdl L C k).getD p 0 ≤ (bdl L C k).getD q 0
  | 0, _ => ⟨fun x hx => by simp [bdl] at hx, fun p q _ hq => by simp [bdl] at hq⟩
  | k + 1, hk => by
    obtain ⟨i1, i2⟩ := h.srt k (by omega)
    by_cases e : nm (ev C (L.getD k (0, 0)).1) = nm (L.getD k (0, 0)).2
    · rw [bdl_ok e]
      exact ⟨fun x hx => by have := i1 x hx; omega, i2⟩
    · rw [bdl_bad e, h.at_ k (by omega)]
      refine ⟨fun x hx => ?_, fun p q hpq hq => ?_⟩
      · rcases List.mem_append.1 hx with hx | hx
        · have := i1 x hx; omega
        · obtain rfl := List.mem_singleton.1 hx; omega
      · rw [List.length_append] at hq
        have hq' : q < (bdl L C k).length + 1 := hq
        have gl : ∀ p, p < (bdl L C k).length → (bdl L C k ++ [(k : Int) + 1]).getD p 0 = (bdl L C k).getD p 0 := fun p hp => by
          rw [List.getD_eq_getElem?_getD, List.getElem?_append_left hp, ← List.getD_eq_getElem?_getD]
        by_cases h2 : q < (bdl L C k).length
        · rw [gl p (by omega), gl q h2]
          exact i2 p q hpq h2
        · obtain rfl : q = (bdl L C k).length := by omega
          rw [gl p (by omega)]
          have hm := i1 ((bdl L C k).getD p 0) (by
            rw [List.getD_eq_getElem?_getD, List.getElem?_eq_getElem (by omega)]
            exact List.getElem_mem _)
          have ge : (bdl L C k ++ [(k : Int) + 1]).getD (bdl L C k).length 0 = (k : Int) + 1 := by
            rw [List.getD_eq_getElem?_getD, List.getElem?_append_right (Nat.le_refl _), Nat.sub_self]
            rfl
          rw [ge]
          omega
/-- What Open tells of them. -/
theorem MdT.told {C : List Int} {m k i : Nat} {L : List (Int × Int)} {B : List Int} {x r : Int} (h : MdT C m L i) (hk : k ≤ 4) (hkm : k < m) (hm : m ≤ 9) (hC : C.length ≤ k + 1) (hi : (i : Int) ≤ mayb m k) (hR : Rob L m k x B r) : x = nm (C.getD 0 0) ∧ B = bdl L C m ∧ r = 0 := by
  have hf := h.few
  have hS : She L m k 0 := .inr (.inr (.inr ⟨⟨by omega, by omega⟩, h.dis hm, by omega, rfl⟩))
  have hm2 : 0 ≤ mayb m k ∧ mayb m k ≤ 4 ∧ (k : Int) + 1 + 2 * mayb m k ≤ (m : Int) := by unfold mayb; omega
  have hDc : Dcd L m k (mayb m k) (pdn C (k + 1)) (bdl L C m) 0 := .inr (.inr (.inr (.inl ⟨⟨⟨by omega, by omega⟩, h.dis hm⟩, ⟨hm2.1, hm2.2.1⟩, hm2.2.2, ⟨C, ⟨by omega, by omega⟩, by congr 1, ⟨List.Perm.refl _, (h.srt m (Nat.le_refl _)).2⟩⟩, rfl⟩)))
  have hR2 : Rob L m k ((pdn C (k + 1)).getD 0 0) (bdl L C m) 0 := .inr ⟨hS, _, _, 0, hDc, .inr ⟨rfl, rfl, rfl, rfl⟩⟩
  obtain ⟨h1, h2, h3⟩ := hR.one h.len hR2
  rw [pdn_getD C (by omega)] at h1
  exact ⟨h1, h2, h3⟩
end Go.Proofs.YtoifklkdfgfbdagDoor

namespace Go.Proofs.YtoifklkdfgfbdagDoor
open Crm

/-- A gate: its kind, its wires, its number. -/
structure Gt where
  k : Int
  a : Int
  b : Int
  n : Int
def gt (G : List Gt) (i : Nat) : Gt := G.getD i ⟨0, 0, 0, 0⟩
/-- Gate i is right. -/
def okg (i : Nat) (g : Gt) : Prop :=
  (g.k = 1 ∧ (1 ≤ g.a ∧ g.a ≤ 9) ∧ g.b = 0 ∧ g.n = 0) ∨ (g.k = 2 ∧ g.a = 0 ∧ g.b = 0) ∨ (g.k = 6 ∧ (0 ≤ g.a ∧ g.a < (i : Int)) ∧ g.b = 0) ∨
  ((g.k = 3 ∨ g.k = 4 ∨ g.k = 5) ∧ (0 ≤ g.a ∧ g.a < (i : Int)) ∧ (0 ≤ g.b ∧ g.b < (i : Int)) ∧ g.n = 0)
def okG (G : List Gt) (n : Nat) : Prop := ∀ i, i < n → okg i (gt G i)
def okO (O : List Int) (n m : Nat) : Prop := ∀ j, j < m → 0 ≤ O.getD j 0 ∧ O.getD j 0 < (n : Int)
theorem okG_zero (G : List Gt) : okG G 0 := fun i hi => by omega
theorem okG_succ {G : List Gt} {k : Nat} (h : okG G k) (hk : okg k (gt G k)) : okG G (k + 1) := fun i hi => by
  by_cases e : i = k
  · rw [e]; exact hk
  · exact h i (by omega)
theorem okG_not {G : List Gt} {k n : Nat} (hk : k < n) (h : ¬ okg k (gt G k)) : ¬ okG G n := fun e => h (e k hk)
theorem okO_zero (O : List Int) (n : Nat) : okO O n 0 := fun i hi => by omega
theorem okO_succ {O : List Int} {n k : Nat} {x : Int} (h : okO O n k) (hx : O.getD k 0 = x) (h0 : 0 ≤ x) (h1 : x < (n : Int)) : okO O n (k + 1) := fun i hi => by
  by_cases e : i = k
  · rw [e, hx]; exact ⟨h0, h1⟩
  · exact h i (by omega)
theorem okO_not {O : List Int} {n m k : Nat} {x : Int} (hk : k < m) (hx : O.getD k 0 = x) (h : x < 0 ∨ (n : Int) ≤ x) : ¬ okO O n m := fun e => by
  have := e k hk
  rw [hx] at this
  omega
/-- What Check tells. -/
def Cke (G : List Gt) (O : List Int) (n m : Nat) (r : Int) : Prop :=
  ((n = 0 ∨ m = 0) ∧ r = 1) ∨ ((n ≠ 0 ∧ m ≠ 0) ∧ (((30 < n ∨ 30 < m) ∧ r = 2) ∨ ((n ≤ 30 ∧ m ≤ 30) ∧ ((¬ (okG G n ∧ okO O n m) ∧ r = 1) ∨ ((okG G n ∧ okO O n m) ∧ r = 0)))))
theorem Cke.one {G : List Gt} {O : List Int} {n m : Nat} {r s : Int} (h : Cke G O n m r) (k : Cke G O n m s) : r = s := by
  rcases h with ⟨h1, rfl⟩ | ⟨h1, ⟨h2, rfl⟩ | ⟨h2, ⟨h3, rfl⟩ | ⟨h3, rfl⟩⟩⟩ <;> rcases k with ⟨k1, rfl⟩ | ⟨k1, ⟨k2, rfl⟩ | ⟨k2, ⟨k3, rfl⟩ | ⟨k3, rfl⟩⟩⟩
  all_goals first
    | rfl
    | (exfalso; omega)
    | exact absurd k3 h3
    | exact absurd h3 k3
theorem Cke.ok {G : List Gt} {O : List Int} {n m : Nat} (h : Cke G O n m 0) : (1 ≤ n ∧ n ≤ 30) ∧ (1 ≤ m ∧ m ≤ 30) ∧ okG G n ∧ okO O n m := by
  rcases h with ⟨_, h⟩ | ⟨h1, ⟨_, h⟩ | ⟨h2, ⟨_, h⟩ | ⟨h3, _⟩⟩⟩
  · omega
  · omega
  · omega
  · exact ⟨⟨by omega, h2.1⟩, ⟨by omega, h2.2⟩, h3⟩
theorem Cke.bd {G : List Gt} {O : List Int} {n m : Nat} {r : Int} (h : Cke G O n m r) : 0 ≤ r ∧ r ≤ 2 := by
  rcases h with ⟨_, rfl⟩ | ⟨_, ⟨_, rfl⟩ | ⟨_, ⟨_, rfl⟩ | ⟨_, rfl⟩⟩⟩ <;> omega

/-- Whose the inputs of the first k gates are. -/
def whl (G : List Gt) : Nat → List Int
  | 0 => []
  | k + 1 => if (gt G k).k = 1 then whl G k ++ [(gt G k).a] else whl G k
/-- How many inputs the first k gates are. -/
def ci (G : List Gt) (k : Nat) : Nat := (whl G k).length
theorem ci_zero (G : List Gt) : ci G 0 = 0 := rfl
theorem ci_in {G : List Gt} {k : Nat} (h : (gt G k).k = 1) : ci G (k + 1) = ci G k + 1 := by unfold ci; rw [whl, if_pos h]; simp
theorem ci_no {G : List Gt} {k : Nat} (h : (gt G k).k ≠ 1) : ci G (k + 1) = ci G k := by unfold ci; rw [whl, if_neg h]
theorem ci_le (G : List Gt) : ∀ k, ci G k ≤ k
  | 0 => Nat.le_refl _
  | k + 1 => by
    have := ci_le G k
    by_cases h : (gt G k).k = 1
    · rw [ci_in h]; omega
    · rw [ci_no h]; omega
theorem ci_mono (G : List Gt) {j k : Nat} (h : j ≤ k) : ci G j ≤ ci G k := by
  induction k with
  | zero => obtain rfl : j = 0 := by omega
            exact Nat.le_refl _
  | succ k ih =>
    by_cases e : j = k + 1
    · rw [e]; exact Nat.le_refl _
    · have h1 := ih (by omega)
      by_cases h2 : (gt G k).k = 1
      · rw [ci_in h2]; omega
      · rw [ci_no h2]; exact h1
theorem ci_lt {G : List Gt} {j k : Nat} (h : j < k) (hj : (gt G j).k = 1) : ci G j < ci G k := by
  have := ci_mono G (show j + 1 ≤ k from h)
  rw [ci_in hj] at this
  omega
/-- What a gate tells, the wires ahead being W, the next input q. -/
def gv (W : List Int) (q : Int) (g : Gt) : Int :=
  if g.k = 1 then nm q else if g.k = 2 then nm g.n else if g.k = 6 then nm (W.getD g.a.toNat 0 * g.n)
  else if g.k = 3 then nm (W.getD g.a.toNat 0 + W.getD g.b.toNat 0) else if g.k = 4 then nm (W.getD g.a.toNat 0 - W.getD g.b.toNat 0) else nm (W.getD g.a.toNat 0 * W.getD g.b.toNat 0)
theorem gv_bd (W : List Int) (q : Int) (g : Gt) : 0 ≤ gv W q g ∧ gv W q g ≤ 2147483646 := by
  unfold gv
  repeat' split
  all_goals exact nm_bd _
/-- What the first k wires have. -/
def wv (G : List Gt) (ins : List Int) : Nat → List Int
  | 0 => []
  | k + 1 => wv G ins k ++ [gv (wv G ins k) (ins.getD (ci G k) 0) (gt G k)]
/-- What wire i has. -/
def wi (G : List Gt) (ins : List Int) (i : Nat) : Int := gv (wv G ins i) (ins.getD (ci G i) 0) (gt G i)
theorem wi_bd (G : List Gt) (ins : List Int) (i : Nat) : 0 ≤ wi G ins i ∧ wi G ins i ≤ 2147483646 := gv_bd _ _ _
theorem wv_len (G : List Gt) (ins : List Int) : ∀ k, (wv G ins k).length = k
  | 0 => rfl
  | k + 1 => by rw [wv, List.length_append, wv_len G ins k]; rfl
theorem wv_getD (G : List Gt) (ins : List Int) {j : Nat} : ∀ {k : Nat}, j < k → (wv G ins k).getD j 0 = wi G ins j
  | 0, h => by omega
  | k + 1, h => by
    have hl := wv_len G ins k
    rw [wv]
    by_cases e : j = k
    · subst e
      rw [List.getD_eq_getElem?_getD, List.getElem?_append_right (by omega), hl, Nat.sub_self]
      rfl
    · rw [List.getD_eq_getElem?_getD, List.getElem?_append_left (by omega), ← List.getD_eq_getElem?_getD]
      exact wv_getD G ins (by omega)
/-- A gate's wire by the wires ahead. -/
theorem wi_in {G : List Gt} {ins : List Int} {i : Nat} (h : (gt G i).k = 1) : wi G ins i = nm (ins.getD (ci G i) 0) := by unfold wi gv; rw [if_pos h]
theorem wi_const {G : List Gt} {ins : List Int} {i : Nat} (h : (gt G i).k = 2) : wi G ins i = nm (gt G i).n := by unfold wi gv; rw [if_neg (by omega), if_pos h]
theorem wi_scale {G : List Gt} {ins : List Int} {i a : Nat} (h : (gt G i).k = 6) (ha : (gt G i).a = (a : Int)) (hi : a < i) : wi G ins i = nm (wi G ins a * (gt G i).n) := by
  unfold wi gv
  rw [if_neg (by omega), if_neg (by omega), if_pos h, ha, Int.toNat_natCast, wv_getD G ins hi]
  rfl
theorem wi_add {G : List Gt} {ins : List Int} {i a b : Nat} (h : (gt G i).k = 3) (ha : (gt G i).a = (a : Int)) (hi : a < i) (hb : (gt G i).b = (b : Int)) (hj : b < i) : wi G ins i = nm (wi G ins a + wi G ins b) := by
  unfold wi gv
  rw [if_neg (by omega), if_neg (by omega), if_neg (by omega), if_pos h, ha, hb, Int.toNat_natCast, Int.toNat_natCast, wv_getD G ins hi, wv_getD G ins hj]
  rfl
theorem wi_sub {G : List Gt} {ins : List Int} {i a b : Nat} (h : (gt G i).k = 4) (ha : (gt G i).a = (a : Int)) (hi : a < i) (hb : (gt G i).b = (b : Int)) (hj : b < i) : wi G ins i = nm (wi G ins a - wi G ins b) := by
  unfold wi gv
  rw [if_neg (by omega), if_neg (by omega), if_neg (by omega), if_neg (by omega), if_pos h, ha, hb, Int.toNat_natCast, Int.toNat_natCast, wv_getD G ins hi, wv_getD G ins hj]
  rfl
theorem wi_mul {G : List Gt} {ins : List Int} {i a b : Nat} (h : (gt G i).k = 5) (ha : (gt G i).a = (a : Int)) (hi : a < i) (hb : (gt G i).b = (b : Int)) (hj : b < i) : wi G ins i = nm (wi G ins a * wi G ins b) := by
  unfold wi gv
  rw [if_neg (by omega), if_neg (by omega), if_neg (by omega), if_neg (by omega), if_neg (by omega), ha, hb, Int.toNat_natCast, Int.toNat_natCast, wv_getD G ins hi, wv_getD G ins hj]
  rfl
/-- What the wires in O have. -/
def otl (G : List Gt) (O ins : List Int) (m : Nat) : List Int := (List.range m).map fun j => wi G ins (O.getD j 0).toNat
theorem otl_len (G : List Gt) (O ins : List Int) (m : Nat) : (otl G O ins m).length = m := by simp [otl]
theorem otl_getD (G : List Gt) (O ins : List Int) {m j : Nat} (h : j < m) : (otl G O ins m).getD j 0 = wi G ins (O.getD j 0).toNat := by simp [otl, h]
theorem otl_snoc (G : List Gt) (O ins : List Int) (m : Nat) : otl G O ins m ++ [wi G ins (O.getD m 0).toNat] = otl G O ins (m + 1) := by simp [otl, List.range_succ]
theorem otl_bd (G : List Gt) (O ins : List Int) (m : Nat) : ∀ z ∈ otl G O ins m, 0 ≤ z ∧ z ≤ 2147483646 := by
  intro z hz
  obtain ⟨i, _, rfl⟩ := List.mem_map.1 hz
  exact wi_bd _ _ _
/-- Without products a circuit of sums tells the sum of what it tells of each, and of nothing taken away. -/
theorem sums {G : List Gt} {n : Nat} {xs ys zs os : List Int} (hG : okG G n) (hno : ∀ i, i < n → (gt G i).k ≠ 5) (hz : ∀ j, j < ci G n → nm (zs.getD j 0) = nm (xs.getD j 0 + ys.getD j 0)) (ho : ∀ j, nm (os.getD j 0) = 0) :
    ∀ i, i < n → nm (wi G zs i + wi G os i) = nm (wi G xs i + wi G ys i) := by
  intro i
  induction i using Nat.strongRecOn with
  | _ i ih =>
    intro hi
    have e : ∀ a b c d : Int, nm (nm a + nm b) = nm (nm c + nm d) ↔ nm (a + b) = nm (c + d) := fun a b c d => by unfold nm; omega
    rcases hG i hi with ⟨h1, _, _, _⟩ | ⟨h1, _, _⟩ | ⟨h1, h2, _⟩ | ⟨h1, h2, h3, _⟩
    · rw [wi_in h1, wi_in h1, wi_in h1, wi_in h1, e]
      have h4 := hz _ (ci_lt hi h1)
      have h5 := ho (ci G i)
      unfold nm at h4 h5 ⊢
      omega
    · rw [wi_const h1, wi_const h1, wi_const h1, wi_const h1]
    · obtain ⟨a, ha⟩ : ∃ a : Nat, (gt G i).a = a := ⟨(gt G i).a.toNat, by omega⟩
      have hai : a < i := by omega
      rw [wi_scale h1 ha hai, wi_scale h1 ha hai, wi_scale h1 ha hai, wi_scale h1 ha hai, e, ← Int.add_mul, ← Int.add_mul]
      exact nm_mul_congr (ih a hai (by omega)) rfl
    · obtain ⟨a, ha⟩ : ∃ a : Nat, (gt G i).a = a := ⟨(gt G i).a.toNat, by omega⟩
      obtain ⟨b, hb⟩ : ∃ b : Nat, (gt G i).b = b := ⟨(gt G i).b.toNat, by omega⟩
      have hai : a < i := by omega
      have hbi : b < i := by omega
      have i1 := ih a hai (by omega)
      have i2 := ih b hbi (by omega)
      rcases h1 with h1 | h1 | h1
      · rw [wi_add h1 ha hai hb hbi, wi_add h1 ha hai hb hbi, wi_add h1 ha hai hb hbi, wi_add h1 ha hai hb hbi, e]
        unfold nm at i1 i2 ⊢
        omega
      · rw [wi_sub h1 ha hai hb hbi, wi_sub h1 ha hai hb hbi, wi_sub h1 ha hai hb hbi, wi_sub h1 ha hai hb hbi, e]
        unfold nm at i1 i2 ⊢
        omega
      · exact absurd h1 (hno i hi)
end Go.Proofs.YtoifklkdfgfbdagDoor
