/- croftref.Through: LAGRANGE. · slices.Index and Contains of ints that came in. · (*shamir.parties).join, shamir.Check. -/
import Derived.Test.YtgmelcdgnjcojagDoorToRefProdC
import Derived.Test.YtgmelcdgnjcojagDoorToIntsC
import Derived.Test.YtgmelcdgnjcojagDoorToAddC
namespace Go.Proofs.YtgmelcdgnjcojagDoor
open Go.RowKit Crm

theorem nil_rd' (w : World) : Rd w none 0 0 [] := ⟨rfl, Nat.le_refl _, Nat.zero_le _, by simp, fun _ => rfl, by simp⟩
theorem nrm_nil {xs : List Int} {n : Nat} (hl : xs.length = n) (h : tl (nz xs) n = 0) (x : Int) : nm (ev xs x) = 0 := by
  have h1 : (nrm xs).length = 0 := by rw [nrm_len, hl, h]
  rw [← nrm_ev, List.eq_nil_of_length_eq_zero h1]
  rfl

/-- What the inner round keeps: the value at its own share, 0 at those that came. -/
structure LgI (l : List (Int × Int)) (i m : Nat) (q : List Int) : Prop where
  le : q.length ≤ if i < m then m else m + 1
  own : nm (ev q (l.getD i (0, 0)).1) = nm (l.getD i (0, 0)).2
  zero : ∀ j, j < m → j ≠ i → nm (ev q (l.getD j (0, 0)).1) = 0
theorem lg_start (l : List (Int × Int)) (i : Nat) : LgI l i 0 [(l.getD i (0, 0)).2] :=
  ⟨by simp, by rw [ev, ev, Int.mul_zero, Int.add_zero], fun j hj => by omega⟩
theorem lg_skip {l : List (Int × Int)} {i : Nat} {q : List Int} (h : LgI l i i q) : LgI l i (i + 1) q :=
  ⟨by have := h.le; simp at this ⊢; omega, h.own, fun j hj hji => h.zero j (by omega) hji⟩
theorem lg_step {l : List (Int × Int)} {n i m : Nat} {q p : List Int} {x z u : Int} (ho : okk l n) (hi : i < n) (hm : m < n) (h : LgI l i m q) (hne : m ≠ i) (hx : (l.getD i (0, 0)).1 = x) (hz : (l.getD m (0, 0)).1 = z)
    (hu : u = iv (nm (x + nm (-z)))) (hl : p.length ≤ q.length + 2 - 1) (hp : ∀ y, nm (ev p y) = nm (ev q y * ev [nm (nm (-z) * u), u] y)) : LgI l i (m + 1) p := by
  have hpp : ∀ y, nm (ev p y) = nm (ev q y * ((y - z) * u)) := fun y => by
    rw [hp]
    refine nm_mul_congr rfl ?_
    rw [ev_pair, nm_addl, ← nm_addl, nm_mull, nm_addl, Int.sub_mul, Int.neg_mul]
    congr 1; omega
  refine ⟨?_, ?_, ?_⟩
  · have := h.le
    split at this <;> split <;> omega
  · rw [hpp, hx]
    have h1 : nm ((x - z) * u) = 1 := by
      have e : nm (x + nm (-z)) = nm (x - z) := by rw [nm_addr]; congr 1
      rw [hu, iv_nm, ← nm_mull, ← e, nm_mull]
      have h2 : nm (x + nm (-z)) ≠ 0 := by rw [e, ← hx, ← hz]; exact ats_apart ho hi hm (fun e => hne e.symm)
      rw [mul_iv h2]
    rw [nm_mul_congr (c := ev q x) (d := 1) rfl (by rw [h1]; rfl), Int.mul_one, ← hx]
    exact h.own
  · intro j hj hji
    rw [hpp]
    by_cases e : j = m
    · subst e
      rw [hz, Int.sub_self, Int.zero_mul, Int.mul_zero]; rfl
    · rw [nm_mul_congr (c := 0) (h.zero j (by omega) hji) rfl, Int.zero_mul]; rfl

/-- What the outer round keeps: the values of the shares that came, 0 at the others. -/
structure LoI (l : List (Int × Int)) (n k : Nat) (p : List Int) : Prop where
  nml : Nml p
  le : p.length ≤ n
  val : ∀ j, j < n → nm (ev p (l.getD j (0, 0)).1) = if j < k then nm (l.getD j (0, 0)).2 else 0
theorem lo_start (l : List (Int × Int)) (n : Nat) : LoI l n 0 [] := ⟨⟨fun x hx => (by cases hx), fun h => (by simp at h)⟩, Nat.zero_le _, fun j _ => by rw [if_neg (by omega)]; rfl⟩
theorem lo_step {l : List (Int × Int)} {n k : Nat} {p q : List Int} (h : LoI l n k p) (hk : k < n) (hq : LgI l k n q) : LoI l n (k + 1) (nrm (sml p q)) := by
  have hql : q.length ≤ n := by have := hq.le; rw [if_pos hk] at this; exact this
  refine ⟨nrm_Nml _, ?_, fun j hj => ?_⟩
  · have := nrm_le (sml p q)
    rw [sml_len] at this
    have := h.le
    omega
  · rw [nrm_ev, sml_ev]
    by_cases e : j = k
    · subst e
      have h1 := h.val j hj
      rw [if_neg (by omega)] at h1
      rw [if_pos (by omega), nm_add_congr (c := 0) (d := (l.getD j (0, 0)).2) h1 hq.own, Int.zero_add]
    · have h1 := h.val j hj
      rw [nm_add_congr (c := ev p (l.getD j (0, 0)).1) (d := 0) rfl (hq.zero j hj e), Int.add_zero, h1]
      by_cases h2 : j < k
      · rw [if_pos h2, if_pos (by omega)]
      · rw [if_neg h2, if_neg (by omega)]

end Go.Proofs.YtgmelcdgnjcojagDoor

namespace Go.Proofs.YtgmelcdgnjcojagDoor
open Go.RowKit Crm

set_option maxRecDepth 100000 in
theorem iIndexF (a : Option Addr) (n c : Nat) (ts : List Int) (x : Int) (w : World) (h : RdI w a n c ts) (hno : ∀ j, j < n → ts.getD j 0 ≠ x) :
    Calls Tryd.prog 70 #[.slice a n c, .int .i64 x] w fun e w' => e = .returned (.int .i64 (-1)) ∧ w' = w := by
  have hcap := h.cap
  have hmax := h.max
  unfold maxLen at hmax
  have HNO : Hid (∀ j, j < n → ts.getD j 0 ≠ x) := hno
  clear hno
  go_enter Tryd.func70, Tryd.ntmps70
  go_wp2
  go_loop [8] (fun i => ∃ k : Nat, k ≤ n ∧ i = .int .i64 k) (fun i => n - (intOf i).toNat)
  case atStart => exact ⟨0, Nat.zero_le _, rfl⟩
  case round =>
    obtain ⟨k, hk, rfl⟩ := hrel
    by_cases hlt : k < n
    · obtain ⟨b, o, y, rfl, hbb, HY, hy0, hy1, hcy⟩ := h.one hlt
      have hxb : (x == y) = false := by rw [beq_eq_false_iff_ne]; exact fun e => HNO.out k hlt (by rw [HY.out, e])
      go_wp2
      go_round
      case rel => exact ⟨k + 1, by omega, by go_num⟩
      case measure => simp [intOf]; omega
    · go_wp2
      go_ret
      exact ⟨rfl, rfl⟩
set_option maxRecDepth 100000 in
theorem iIndexT (a : Option Addr) (n c : Nat) (ts : List Int) (x : Int) (w : World) (h : RdI w a n c ts) {j0 : Nat} (hj : j0 < n) (hx : ts.getD j0 0 = x) :
    Calls Tryd.prog 70 #[.slice a n c, .int .i64 x] w fun e w' => (∃ r : Nat, r ≤ n ∧ e = .returned (.int .i64 r)) ∧ w' = w := by
  have hcap := h.cap
  have hmax := h.max
  unfold maxLen at hmax
  have HX : Hid (ts.getD j0 0 = x) := hx
  clear hx
  go_enter Tryd.func70, Tryd.ntmps70
  go_wp2
  go_loop [8] (fun i => ∃ k : Nat, k ≤ j0 ∧ i = .int .i64 k) (fun i => n - (intOf i).toNat)
  case atStart => exact ⟨0, Nat.zero_le _, rfl⟩
  case round =>
    obtain ⟨k, hk, rfl⟩ := hrel
    obtain ⟨b, o, y, rfl, hbb, HY, hy0, hy1, hcy⟩ := h.one (show k < n by omega)
    by_cases hxy : x = y
    · have hxb : (x == y) = true := by rw [beq_iff_eq]; exact hxy
      clear hxy
      go_wp2
      go_ret
      exact ⟨⟨k, by omega, rfl⟩, rfl⟩
    · have hxb : (x == y) = false := by rw [beq_eq_false_iff_ne]; exact hxy
      have hkj : k < j0 := by
        rcases Nat.lt_or_ge k j0 with h' | h'
        · exact h'
        · exfalso
          obtain rfl : k = j0 := by omega
          exact hxy (by rw [← HX.out, HY.out])
      clear hxy
      go_wp2
      go_round
      case rel => exact ⟨k + 1, by omega, by go_num⟩
      case measure => simp [intOf]; omega
set_option maxRecDepth 100000 in
theorem iContF (a : Option Addr) (n c : Nat) (ts : List Int) (x : Int) (w : World) (h : RdI w a n c ts) (hno : ∀ j, j < n → ts.getD j 0 ≠ x) :
    Calls Tryd.prog 34 #[.slice a n c, .int .i64 x] w fun e w' => e = .returned (.bool false) ∧ w' = w := by
  have HNO : Hid (∀ j, j < n → ts.getD j 0 ≠ x) := hno
  clear hno
  go_enter Tryd.func34, Tryd.ntmps34
  go_wp2_with (go_at_call 70; refine (iIndexF _ _ _ _ _ _ h HNO.out).mono ?_; rintro e w3 ⟨rfl, hw⟩; have hw := hw.symm; subst hw)
  go_ret
  exact ⟨rfl, rfl⟩
set_option maxRecDepth 100000 in
theorem iContT (a : Option Addr) (n c : Nat) (ts : List Int) (x : Int) (w : World) (h : RdI w a n c ts) {j0 : Nat} (hj : j0 < n) (hx : ts.getD j0 0 = x) :
    Calls Tryd.prog 34 #[.slice a n c, .int .i64 x] w fun e w' => e = .returned (.bool true) ∧ w' = w := by
  have hcap := h.cap
  have hmax := h.max
  unfold maxLen at hmax
  have HX : Hid (ts.getD j0 0 = x) := hx
  clear hx
  go_enter Tryd.func34, Tryd.ntmps34
  go_wp2_with (go_at_call 70; refine (iIndexT _ _ _ _ _ _ h hj HX.out).mono ?_; rintro e w3 ⟨⟨r, hr, rfl⟩, hw⟩; have hw := hw.symm; subst hw)
  go_ret
  exact ⟨rfl, rfl⟩
end Go.Proofs.YtgmelcdgnjcojagDoor

namespace Go.Proofs.YtgmelcdgnjcojagDoor
open Go.RowKit Crm

/-- Row g holds the marks M. -/
def BlkB (w : World) (g : Nat) (M : List Bool) : Prop := w.heap[g]? = some (.cells (M.map Value.bool).toArray 151 (0, 0))
theorem BlkB.lt {w : World} {g : Nat} {M : List Bool} (h : BlkB w g M) : g < w.heap.size := (Array.getElem?_eq_some_iff.1 h).1
theorem BlkB.cell {w : World} {g : Nat} {M : List Bool} (h : BlkB w g M) {i : Nat} (hi : i < M.length) : w.cell? ⟨g, i, none⟩ = some (.bool (M.getD i false)) := by
  rw [cell_of_row w g i _ _ (0, 0) h]
  simp [List.getElem?_eq_getElem hi]
theorem BlkB.frozen {w : World} {g : Nat} {M : List Bool} (h : BlkB w g M) (i : Nat) : w.frozen? ⟨g, i, none⟩ = false := frozen_of_row w g i _ _ h
theorem BlkB.set {w : World} {g : Nat} {M : List Bool} (h : BlkB w g M) (i : Nat) (v : Bool) : BlkB (w.setCell ⟨g, i, none⟩ (.bool v)) g (M.set i v) := by
  have := heap_setCell_same w g i _ _ (.bool v) h
  unfold BlkB
  rw [this]
  simp [List.map_set]
theorem BlkB.below {w w' : World} {B g : Nat} {M : List Bool} (h : BlkB w g M) (hb : Below B w w') (hg : g < B) : BlkB w' g M := by
  unfold BlkB; rw [hb.block g hg]; exact h

set_option maxRecDepth 100000 in
theorem cJoinO (g : Nat) (x : Int) (w : World) (h : x < 1 ∨ 9 < x) :
    Calls Tryd.prog 96 #[.pointer (some ⟨g, 0, none⟩), .int .i64 x] w fun e w' => e = .returned (.bool false) ∧ w' = w := by
  by_cases h1 : x < 1
  · clear h
    go_enter Tryd.func96, Tryd.ntmps96
    go_wp2
    go_ret
    exact ⟨rfl, rfl⟩
  · have h2 : 9 < x := by omega
    clear h
    go_enter Tryd.func96, Tryd.ntmps96
    go_wp2
    go_ret
    exact ⟨rfl, rfl⟩
set_option maxRecDepth 100000 in
theorem cJoinN (g k : Nat) (M : List Bool) (w : World) (h : BlkB w g M) (hM : M.length = 10) (h1 : 1 ≤ k) (h9 : k ≤ 9) (hk : M.getD k false = true) :
    Calls Tryd.prog 96 #[.pointer (some ⟨g, 0, none⟩), .int .i64 k] w fun e w' => e = .returned (.bool false) ∧ w' = w := by
  have hc := h.cell (i := k) (by omega)
  rw [hk] at hc
  have hlt := h.lt
  go_enter Tryd.func96, Tryd.ntmps96
  go_wp2
  go_ret
  exact ⟨rfl, rfl⟩
set_option maxRecDepth 100000 in
theorem cJoinY (g k : Nat) (M : List Bool) (w : World) (h : BlkB w g M) (hM : M.length = 10) (h1 : 1 ≤ k) (h9 : k ≤ 9) (hk : M.getD k false = false) :
    Calls Tryd.prog 96 #[.pointer (some ⟨g, 0, none⟩), .int .i64 k] w fun e w' => e = .returned (.bool true) ∧ w' = w.setCell ⟨g, k, none⟩ (.bool true) := by
  have hc := h.cell (i := k) (by omega)
  rw [hk] at hc
  have hlt := h.lt
  have hfz := h.frozen k
  go_enter Tryd.func96, Tryd.ntmps96
  go_wp2
  go_ret
  exact ⟨rfl, rfl⟩
end Go.Proofs.YtgmelcdgnjcojagDoor
