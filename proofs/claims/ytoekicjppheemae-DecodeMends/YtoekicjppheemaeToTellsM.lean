/- slices.Index and Contains of ints that came in. · What shares of a dealing tell: plain facts. -/
import Derived.Test.YtoekicjppheemaeToEqnC
import Derived.Test.YtoekicjppheemaeToDealC
namespace Go.Proofs.Ytoekicjppheemae
open Go.RowKit Crm

set_option maxRecDepth 100000 in
theorem iIndexF (a : Option Addr) (n c : Nat) (ts : List Int) (x : Int) (w : World) (h : RdI w a n c ts) (hno : ∀ j, j < n → ts.getD j 0 ≠ x) :
    Calls Try.prog 18 #[.slice a n c, .int .i64 x] w fun e w' => e = .returned (.int .i64 (-1)) ∧ w' = w := by
  have hcap := h.cap
  have hmax := h.max
  unfold maxLen at hmax
  have HNO : Hid (∀ j, j < n → ts.getD j 0 ≠ x) := hno
  clear hno
  go_enter Try.func18, Try.ntmps18
  go_wp2
  go_loop [8] (fun i => ∃ k : Nat, k ≤ n ∧ i = .int .i64 k) (fun i => n - (intOf i).toNat)
  case atStart => exact ⟨0, Nat.zero_le _, rfl⟩
  case round =>
    obtain ⟨k, hk, rfl⟩ := hrel
    by_cases hlt : k < n
    · obtain ⟨b, o, y, rfl, hbb, HY, hy0, hy1, hcy⟩ := h.one hlt
      have hxb : (x == y) = false := by rw [beq_eq_false_iff_ne]; exact fun e => HNO.out k hlt (by rw [HY.out, e])
      go_wp2
      go_round
      case rel => exact ⟨k + 1, by omega, by go_num⟩
      case measure => simp [intOf]; omega
    · go_wp2
      go_ret
      exact ⟨rfl, rfl⟩
set_option maxRecDepth 100000 in
theorem iIndexT (a : Option Addr) (n c : Nat) (ts : List Int) (x : Int) (w : World) (h : RdI w a n c ts) {j0 : Nat} (hj : j0 < n) (hx : ts.getD j0 0 = x) :
    Calls Try.prog 18 #[.slice a n c, .int .i64 x] w fun e w' => (∃ r : Nat, r ≤ n ∧ e = .returned (.int .i64 r)) ∧ w' = w := by
  have hcap := h.cap
  have hmax := h.max
  unfold maxLen at hmax
  have HX : Hid (ts.getD j0 0 = x) := hx
  clear hx
  go_enter Try.func18, Try.ntmps18
  go_wp2
  go_loop [8] (fun i => ∃ k : Nat, k ≤ j0 ∧ i = .int .i64 k) (fun i => n - (intOf i).toNat)
  case atStart => exact ⟨0, Nat.zero_le _, rfl⟩
  case round =>
    obtain ⟨k, hk, rfl⟩ := hrel
    obtain ⟨b, o, y, rfl, hbb, HY, hy0, hy1, hcy⟩ := h.one (show k < n by omega)
    by_cases hxy : x = y
    · have hxb : (x == y) = true := by rw [beq_iff_eq]; exact hxy
      clear hxy
      go_wp2
      go_ret
      exact ⟨⟨k, by omega, rfl⟩, rfl⟩
    · have hxb : (x == y) = false := by rw [beq_eq_false_iff_ne]; exact hxy
      have hkj : k < j0 := by
        rcases Nat.lt_or_ge k j0 with h' | h'
        · exact h'
        · exfalso
          obtain rfl : k = j0 := by omega
          exact hxy (by rw [← HX.out, HY.out])
      clear hxy
      go_wp2
      go_round
      case rel => exact ⟨k + 1, by omega, by go_num⟩
      case measure => simp [intOf]; omega
set_option maxRecDepth 100000 in
theorem iContF (a : Option Addr) (n c : Nat) (ts : List Int) (x : Int) (w : World) (h : RdI w a n c ts) (hno : ∀ j, j < n → ts.getD j 0 ≠ x) :
    Calls Try.prog 12 #[.slice a n c, .int .i64 x] w fun e w' => e = .returned (.bool false) ∧ w' = w := by
  have HNO : Hid (∀ j, j < n → ts.getD j 0 ≠ x) := hno
  clear hno
  go_enter Try.func12, Try.ntmps12
  go_wp2_with (go_at_call 18; refine (iIndexF _ _ _ _ _ _ h HNO.out).mono ?_; rintro e w3 ⟨rfl, hw⟩; have hw := hw.symm; subst hw)
  go_ret
  exact ⟨rfl, rfl⟩
set_option maxRecDepth 100000 in
theorem iContT (a : Option Addr) (n c : Nat) (ts : List Int) (x : Int) (w : World) (h : RdI w a n c ts) {j0 : Nat} (hj : j0 < n) (hx : ts.getD j0 0 = x) :
    Calls Try.prog 12 #[.slice a n c, .int .i64 x] w fun e w' => e = .returned (.bool true) ∧ w' = w := by
  have hcap := h.cap
  have hmax := h.max
  unfold maxLen at hmax
  have HX : Hid (ts.getD j0 0 = x) := hx
  clear hx
  go_enter Try.func12, Try.ntmps12
  go_wp2_with (go_at_call 18; refine (iIndexT _ _ _ _ _ _ h hj HX.out).mono ?_; rintro e w3 ⟨⟨r, hr, rfl⟩, hw⟩; have hw := hw.symm; subst hw)
  go_ret
  exact ⟨rfl, rfl⟩
end Go.Proofs.Ytoekicjppheemae

namespace Go.Proofs.Ytoekicjppheemae
open Crm

/-- Enough shares of a dealing open it. -/
theorem any_open {C : List Int} {l : List (Int × Int)} {n k : Nat} (hd : dis (fa l) n) (hk : k ≤ 4) (hkn : k < n) (hC : C.length ≤ k + 1) (hy : Hs l n C) {x r : Int} (h : Opn l n k x r) : x = nm (ev C 0) ∧ r = 0 := by
  have h1 : Opn l n k (nm (ev C 0)) 0 := Or.inr ⟨Or.inr (Or.inr (Or.inr ⟨⟨by omega, by omega⟩, hd, by omega, rfl⟩)), Or.inl ⟨C, by omega, hy, rfl, rfl⟩⟩
  exact h.one h1

/-- One wrong share among more than are needed is told. -/
theorem wrong_told {C : List Int} {l : List (Int × Int)} {m k q : Nat} {b : Int} (hk : k ≤ 4) (hC : C.length ≤ k + 1) (hm : k + 2 ≤ m) (hm9 : m ≤ 9) (hq : q < m) (hb : nm b ≠ 0)
    (hl : ∀ j, j < m → l.getD j (0, 0) = ((j : Int) + 1, if j = q then nm (dlf C j + b) else dlf C j)) {x r : Int} (h : Opn l m k x r) : r = 6 := by
  have hfa : ∀ j, j < m → fa l j = (j : Int) + 1 := fun j hj => by unfold fa; rw [hl j hj]
  have hd : dis (fa l) m := fun i hi => by
    rw [hfa i hi]
    exact ⟨⟨by omega, by omega⟩, fun j hj => by rw [hfa j (by omega)]; omega⟩
  have hS : She l m k 0 := Or.inr (Or.inr (Or.inr ⟨⟨by omega, by omega⟩, hd, by omega, rfl⟩))
  rcases h with ⟨h1, h2, _⟩ | ⟨_, ⟨S, h2, h3, _, _⟩ | ⟨_, _, h4⟩⟩
  · exact absurd (h1.one hS) h2
  · exfalso
    have hne : ∀ j, j < m - 1 → (if j < q then j else j + 1) < m ∧ (if j < q then j else j + 1) ≠ q := fun j hj => by split <;> omega
    have hw : ∀ j, j < m - 1 → ((List.range (m - 1)).map fun j => l.getD (if j < q then j else j + 1) (0, 0)).getD j (0, 0) = l.getD (if j < q then j else j + 1) (0, 0) := fun j hj => by simp [hj]
    have h5 := hs_one (l := (List.range (m - 1)).map fun j => l.getD (if j < q then j else j + 1) (0, 0)) (n := m - 1) (S := S) (R := C) (fun j hj => ?_) (fun j hj => ?_) (fun j hj => ?_) (by omega) (by omega)
    · have h6 := h3 q hq
      rw [hl q hq, if_pos rfl] at h6
      simp only at h6
      rw [ev_one h5, nm_nm] at h6
      have h7 : nm (dlf C q + b - ev C ((q : Int) + 1)) = 0 := by
        rw [nm_eq_iff] at h6
        unfold nm at h6 ⊢
        omega
      apply hb
      have h8 : nm (dlf C q + b) = nm (ev C ((q : Int) + 1) + b) := by unfold dlf; rw [nm_addl]
      rw [← nm_subl, h8, nm_subl] at h7
      rw [← h7]
      congr 1
      omega
    · rw [hw j hj, hl _ (hne j hj).1]
      refine ⟨⟨by simp only; split <;> omega, by simp only; split <;> omega⟩, fun p hp => ?_⟩
      rw [hw p (by omega), hl _ (hne p (by omega)).1]
      simp only
      split <;> split <;> omega
    · rw [hw j hj]
      exact h3 _ (hne j hj).1
    · rw [hw j hj, hl _ (hne j hj).1, if_neg (hne j hj).2]
      unfold dlf
      simp only
      rw [nm_nm]
  · exact h4
end Go.Proofs.Ytoekicjppheemae
