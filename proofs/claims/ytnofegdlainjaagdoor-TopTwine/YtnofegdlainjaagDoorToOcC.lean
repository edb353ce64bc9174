/- Package hide: its contracts (HidS: Shift; HidV: Twine). · slices.Index and Contains of ints that came in. · A list of numbers that was gathered and is then written in place (Oc); the lists that croftref.Leads gathers (Bas). -/
import Derived.Test.YtnofegdlainjaagDoorToHidV
import Derived.Test.YtnofegdlainjaagDoorToIntsC
import Derived.Test.YtnofegdlainjaagDoorToShares
namespace Go.Proofs.YtnofegdlainjaagDoor
end Go.Proofs.YtnofegdlainjaagDoor

namespace Go.Proofs.YtnofegdlainjaagDoor
open Go.RowKit Crm

set_option maxRecDepth 100000 in
theorem iIndexF (a : Option Addr) (n c : Nat) (ts : List Int) (x : Int) (w : World) (h : RdI w a n c ts) (hno : ∀ j, j < n → ts.getD j 0 ≠ x) :
    Calls Tryd.prog 62 #[.slice a n c, .int .i64 x] w fun e w' => e = .returned (.int .i64 (-1)) ∧ w' = w := by
  have hcap := h.cap
  have hmax := h.max
  unfold maxLen at hmax
  have HNO : Hid (∀ j, j < n → ts.getD j 0 ≠ x) := hno
  clear hno
  go_enter Tryd.func62, Tryd.ntmps62
  go_wp2
  go_loop [8] (fun i => ∃ k : Nat, k ≤ n ∧ i = .int .i64 k) (fun i => n - (intOf i).toNat)
  case atStart => exact ⟨0, Nat.zero_le _, rfl⟩
  case round =>
    obtain ⟨k, hk, rfl⟩ := hrel
    by_cases hlt : k < n
    · obtain ⟨b, o, y, rfl, hbb, HY, hy0, hy1, hcy⟩ := h.one hlt
      have hxb : (x == y) = false := by rw [beq_eq_false_iff_ne]; exact fun e => HNO.out k hlt (by rw [HY.out, e])
      go_wp2
      go_round
      case rel => exact ⟨k + 1, by omega, by go_num⟩
      case measure => simp [intOf]; omega
    · go_wp2
      go_ret
      exact ⟨rfl, rfl⟩
set_option maxRecDepth 100000 in
theorem iIndexT (a : Option Addr) (n c : Nat) (ts : List Int) (x : Int) (w : World) (h : RdI w a n c ts) {j0 : Nat} (hj : j0 < n) (hx : ts.getD j0 0 = x) :
    Calls Tryd.prog 62 #[.slice a n c, .int .i64 x] w fun e w' => (∃ r : Nat, r ≤ n ∧ e = .returned (.int .i64 r)) ∧ w' = w := by
  have hcap := h.cap
  have hmax := h.max
  unfold maxLen at hmax
  have HX : Hid (ts.getD j0 0 = x) := hx
  clear hx
  go_enter Tryd.func62, Tryd.ntmps62
  go_wp2
  go_loop [8] (fun i => ∃ k : Nat, k ≤ j0 ∧ i = .int .i64 k) (fun i => n - (intOf i).toNat)
  case atStart => exact ⟨0, Nat.zero_le _, rfl⟩
  case round =>
    obtain ⟨k, hk, rfl⟩ := hrel
    obtain ⟨b, o, y, rfl, hbb, HY, hy0, hy1, hcy⟩ := h.one (show k < n by omega)
    by_cases hxy : x = y
    · have hxb : (x == y) = true := by rw [beq_iff_eq]; exact hxy
      clear hxy
      go_wp2
      go_ret
      exact ⟨⟨k, by omega, rfl⟩, rfl⟩
    · have hxb : (x == y) = false := by rw [beq_eq_false_iff_ne]; exact hxy
      have hkj : k < j0 := by
        rcases Nat.lt_or_ge k j0 with h' | h'
        · exact h'
        · exfalso
          obtain rfl : k = j0 := by omega
          exact hxy (by rw [← HX.out, HY.out])
      clear hxy
      go_wp2
      go_round
      case rel => exact ⟨k + 1, by omega, by go_num⟩
      case measure => simp [intOf]; omega
set_option maxRecDepth 100000 in
theorem iContF (a : Option Addr) (n c : Nat) (ts : List Int) (x : Int) (w : World) (h : RdI w a n c ts) (hno : ∀ j, j < n → ts.getD j 0 ≠ x) :
    Calls Tryd.prog 33 #[.slice a n c, .int .i64 x] w fun e w' => e = .returned (.bool false) ∧ w' = w := by
  have HNO : Hid (∀ j, j < n → ts.getD j 0 ≠ x) := hno
  clear hno
  go_enter Tryd.func33, Tryd.ntmps33
  go_wp2_with (go_at_call 62; refine (iIndexF _ _ _ _ _ _ h HNO.out).mono ?_; rintro e w3 ⟨rfl, hw⟩; have hw := hw.symm; subst hw)
  go_ret
  exact ⟨rfl, rfl⟩
set_option maxRecDepth 100000 in
theorem iContT (a : Option Addr) (n c : Nat) (ts : List Int) (x : Int) (w : World) (h : RdI w a n c ts) {j0 : Nat} (hj : j0 < n) (hx : ts.getD j0 0 = x) :
    Calls Tryd.prog 33 #[.slice a n c, .int .i64 x] w fun e w' => e = .returned (.bool true) ∧ w' = w := by
  have hcap := h.cap
  have hmax := h.max
  unfold maxLen at hmax
  have HX : Hid (ts.getD j0 0 = x) := hx
  clear hx
  go_enter Tryd.func33, Tryd.ntmps33
  go_wp2_with (go_at_call 62; refine (iIndexT _ _ _ _ _ _ h hj HX.out).mono ?_; rintro e w3 ⟨⟨r, hr, rfl⟩, hw⟩; have hw := hw.symm; subst hw)
  go_ret
  exact ⟨rfl, rfl⟩
end Go.Proofs.YtnofegdlainjaagDoor

namespace Go.Proofs.YtnofegdlainjaagDoor
open Go.RowKit Crm

structure Oc (w : World) (B : Nat) (a : Option Addr) (r c : Nat) (L : List Int) : Prop where
  len : L.length = r
  cap : r ≤ c
  max : c ≤ maxLen
  bd : ∀ x ∈ L, 0 ≤ x ∧ x ≤ 2147483646
  nil : a = none → c = 0
  blk : ∀ x, a = some x → ∃ (g : Nat) (cur : Array Value), x = ⟨g, 0, none⟩ ∧ B ≤ g ∧ w.heap[g]? = some (.cells cur 34 (0, 0)) ∧ cur.size = c ∧ ∀ i, i < r → cur[i]? = some (.int .u64 (L.getD i 0))

theorem Oc.of_own {w : World} {B r : Nat} {v : Value} {L : List Int} (h : w.ownsRow B 34 1 v r (L.map (Value.int .u64))) (hb : ∀ x ∈ L, 0 ≤ x ∧ x ≤ 2147483646) : ∃ a c, v = .slice a r c ∧ Oc w B a r c L := by
  have hl : L.length = r := by simpa using h.1
  rcases h.2 with ⟨rfl, rfl⟩ | ⟨g, cap, cur, rfl, h1, hg, h2, h3, hs, ht⟩
  · exact ⟨none, 0, rfl, hl, Nat.le_refl _, Nat.zero_le _, hb, fun _ => rfl, by simp⟩
  · refine ⟨_, _, rfl, hl, h2, h3, hb, by simp, fun x hx => ?_⟩
    obtain rfl := Option.some.inj hx
    refine ⟨g, cur, rfl, h1, hg, by omega, fun i hi => ?_⟩
    have h4 : (cur.toList.take (r * 1))[i]? = some (.int .u64 (L.getD i 0)) := by
      rw [ht]; simp [List.getElem?_eq_getElem (show i < L.length by omega)]
    rw [List.getElem?_take] at h4
    split at h4
    · simpa using h4
    · cases h4
theorem Oc.at_ {w : World} {B : Nat} {a : Option Addr} {r c : Nat} {L : List Int} (h : Oc w B a r c L) {k : Nat} (hk : k < r) : ∃ g, a = some ⟨g, 0, none⟩ ∧ B ≤ g ∧ g < w.heap.size ∧ w.frozen? ⟨g, k, none⟩ = false ∧ w.cell? ⟨g, k, none⟩ = some (.int .u64 (L.getD k 0)) := by
  cases ha : a with
  | none => have := h.nil ha; have := h.cap; omega
  | some x =>
    obtain ⟨g, cur, rfl, hb, hg, hs, hc⟩ := h.blk x ha
    exact ⟨g, rfl, hb, (Array.getElem?_eq_some_iff.1 hg).1, frozen_of_row w g k _ _ hg, by rw [cell_of_row w g k _ _ (0, 0) hg]; exact hc k hk⟩
theorem Oc.nbd {w : World} {B : Nat} {a : Option Addr} {r c : Nat} {L : List Int} (h : Oc w B a r c L) (k : Nat) : 0 ≤ L.getD k 0 ∧ L.getD k 0 ≤ 2147483646 := getD_bd' h.bd k
theorem Oc.below {w : World} {B : Nat} {a : Option Addr} {r c : Nat} {L : List Int} (h : Oc w B a r c L) {w' : World} (hb : Below w.heap.size w w') : Oc w' B a r c L := by
  refine ⟨h.len, h.cap, h.max, h.bd, h.nil, fun x hx => ?_⟩
  obtain ⟨g, cur, h1, h2, h3, h4⟩ := h.blk x hx
  exact ⟨g, cur, h1, h2, by rw [hb.block g (Array.getElem?_eq_some_iff.1 h3).1]; exact h3, h4⟩
theorem Oc.drew {w : World} {B : Nat} {a : Option Addr} {r c : Nat} {L : List Int} (h : Oc w B a r c L) : Oc w.drew B a r c L := ⟨h.len, h.cap, h.max, h.bd, h.nil, h.blk⟩
theorem Oc.set {w : World} {B : Nat} {a : Option Addr} {r c : Nat} {L : List Int} (h : Oc w B a r c L) {g k : Nat} (ha : a = some ⟨g, 0, none⟩) {v : Int} (hv : 0 ≤ v ∧ v ≤ 2147483646) : Oc (w.setCell ⟨g, k, none⟩ (.int .u64 v)) B a r c (L.set k v) := by
  refine ⟨by rw [List.length_set]; exact h.len, h.cap, h.max, fun x hx => ?_, h.nil, fun x hx => ?_⟩
  · rcases List.mem_or_eq_of_mem_set hx with h1 | h1
    · exact h.bd x h1
    · rw [h1]; exact hv
  · obtain ⟨g', cur, h1, h2, h3, h4, h5⟩ := h.blk x hx
    rw [ha] at hx
    obtain rfl := Option.some.inj hx
    simp only [Addr.mk.injEq, and_true] at h1
    subst h1
    refine ⟨g, _, rfl, h2, heap_setCell_same w g k _ _ _ h3, by simpa using h4, fun i hi => ?_⟩
    rw [Array.getElem?_setIfInBounds, getD_set]
    have hcp := h.cap
    have hln := h.len
    by_cases e : k = i
    · subst e; simp [h4, hln, hi]; omega
    · rw [if_neg e, if_neg (fun hh => e hh.1)]; exact h5 i hi
theorem Oc.rd {w : World} {B : Nat} {a : Option Addr} {r c : Nat} {L : List Int} (h : Oc w B a r c L) : Rd w a r c L := by
  refine ⟨h.len, h.cap, h.max, bd_u64 h.bd, h.nil, fun x hx i hi => ?_⟩
  obtain ⟨g, cur, rfl, h2, h3, h4, h5⟩ := h.blk x hx
  rw [Addr.add_lit, Nat.zero_add, cell_of_row w g i _ _ (0, 0) h3]
  exact h5 i hi

theorem own_kept {w w' : World} {base n : Nat} {E : TypeId} {v u : Value} {xs : List Value} (h : w.ownsRow base E 1 v n xs) (hg : w.grownBy w' u.ownBlock) (hd : ∀ k, v.ownBlock = some k → u.ownBlock ≠ some k) : w'.ownsRow base E 1 v n xs := by
  refine h.kept hg ?_
  cases hv : v.ownBlock with
  | none => exact .inl rfl
  | some k => exact .inr fun e => hd k hv e.symm

theorem getD_snoc_old {BB : List (List Int)} {b : List Int} {k : Nat} (h : k < BB.length) : (BB ++ [b]).getD k [] = BB.getD k [] := by simp [List.getElem?_append_left h]
theorem getD_snoc_new (BB : List (List Int)) (b : List Int) : (BB ++ [b]).getD BB.length [] = b := by simp

end Go.Proofs.YtnofegdlainjaagDoor
