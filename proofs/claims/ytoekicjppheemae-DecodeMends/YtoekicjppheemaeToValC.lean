/- poly.product. · poly.value, slices.Equal. -/
import Derived.Test.YtoekicjppheemaeToTrimC
import Derived.Test.YtoekicjppheemaeToFieldC
import Derived.Test.YtoekicjppheemaeToPolyM2
import Derived.Test.YtoekicjppheemaeToMath
import Derived.Deep.QuietTactic
import Derived.BigQuiet
namespace Go.Proofs.Ytoekicjppheemae
open Go.RowKit Crm

theorem get_getD {l : List Int} {k : Nat} (h : k < l.length) : l[k]? = some (l.getD k 0) := by
  rw [List.getD_eq_getElem?_getD, List.getElem?_eq_getElem h]; rfl

theorem addAt_pc (ps qs L : List Int) (m i : Nat) (hm : i + qs.length ≤ m)
    (hL : L = (List.range m).map fun k => nm (pc ps qs k i)) : addAt L i qs (ps.getD i 0) qs.length = (List.range m).map fun k => nm (pc ps qs k (i + 1)) := by
  apply List.ext_getElem?
  intro k
  have hl : L.length = m := by rw [hL]; simp
  by_cases hk : k < m
  · have h1 : k < (addAt L i qs (ps.getD i 0) qs.length).length := by rw [addAt_len, hl]; exact hk
    have e1 : (addAt L i qs (ps.getD i 0) qs.length)[k]? = some ((addAt L i qs (ps.getD i 0) qs.length).getD k 0) := get_getD h1
    rw [e1, addAt_getD, hl]
    have e2 : L.getD k 0 = nm (pc ps qs k i) := by rw [hL]; simp [hk]
    have e3 : ((List.range m).map fun k => nm (pc ps qs k (i + 1)))[k]? = some (nm (pc ps qs k (i + 1))) := by simp [hk]
    rw [e3, e2, pc]
    congr 1
    by_cases h : i ≤ k ∧ k < i + qs.length ∧ k < m
    · rw [if_pos h, nm_addl, tm, if_pos h.1]
    · rw [if_neg h, tm]
      have := hm
      split
      · have : qs.getD (k - i) 0 = 0 := by rw [List.getD_eq_getElem?_getD, List.getElem?_eq_none (by omega)]; rfl
        rw [this, Int.mul_zero, Int.add_zero]
      · rw [Int.add_zero]
  · rw [List.getElem?_eq_none (by rw [addAt_len, hl]; omega), List.getElem?_eq_none (by simp; omega)]

theorem pc_bd (ps qs : List Int) (m i : Nat) : ∀ x ∈ (List.range m).map (fun k => nm (pc ps qs k i)), 0 ≤ x ∧ x ≤ 18446744073709551615 := by
  intro x hx
  obtain ⟨k, _, rfl⟩ := List.mem_map.1 hx
  have := nm_bd (pc ps qs k i)
  omega

end Go.Proofs.Ytoekicjppheemae

namespace Go.Proofs.Ytoekicjppheemae
open Go.RowKit Crm

theorem drewN_below {B : Nat} {a w : World} (h : Below B a w) (n : Nat) : Below B a (w.drewN n) := by
  induction n with
  | zero => exact h
  | succ n ih => exact ih.drew

theorem horner (xs : List Int) (x : Int) {m : Nat} {y z : Int} (h : m < xs.length) (hy : y = nm (ev (xs.drop (m + 1)) x)) (hz : xs.getD m 0 = z) : nm (nm (y * x) + z) = nm (ev (xs.drop m) x) := by
  rw [ev_drop xs x h, hy, hz, nm_addl]
  have : ∀ E : Int, nm (nm E * x + z) = nm (z + x * E) := fun E => by
    rw [Int.add_comm, ← nm_addr, nm_mull, nm_addr, Int.mul_comm x]
  exact this _

set_option maxHeartbeats 400000 in
set_option maxRecDepth 100000 in
theorem cValueQ (a : Option Addr) (n c : Nat) (xs : List Int) (x : Int) (w : World) (h : Rd w a n c xs) (hx0 : 0 ≤ x) (hx1 : x ≤ 18446744073709551615) :
    Calls Try.prog 25 #[.slice a n c, .int .u64 x] w fun e w' => e = .returned (.int .u64 (nm (ev xs x))) ∧ ∃ q, w' = w.drewN q := by
  have hm := h.max
  have hcap := h.cap
  have hlen := h.len
  unfold maxLen at hm
  go_enter Try.func25, Try.ntmps25
  go_wp2
  go_loopw [5, 6] (fun s i wr => ∃ (k : Nat) (y : Int) (q : Nat), k ≤ n ∧ i = .int .i64 ((k : Int) - 1) ∧ s = .int .u64 y ∧ 0 ≤ y ∧ y ≤ 2147483646 ∧ Hid (y = nm (ev (xs.drop k) x)) ∧ wr = w.drewN q) (fun _ i _ => (intOf i + 1).toNat)
  case atStart => exact ⟨n, 0, 0, Nat.le_refl _, rfl, rfl, by omega, by omega, by rw [List.drop_of_length_le (by omega)]; exact rfl, rfl⟩
  case round =>
    obtain ⟨k, y, q, hk, rfl, rfl, hy0, hy1, HY, hwr⟩ := hrel
    have hbel : Below w.heap.size w wr := by rw [hwr]; exact drewN_below (Below.refl _ _) q
    have HW : Hid (wr = w.drewN q) := hwr
    clear hwr
    cases k with
    | zero =>
      go_wp2
      go_ret
      rw [← List.drop_zero (l := xs), ← HY.out]
      exact ⟨rfl, q, HW.out⟩
    | succ m =>
      obtain ⟨b, o, z, rfl, hb, HZ, hz0, hz1, hc⟩ := (h.below hbel).one (show m < n by omega)
      have hmul := nm_bd (y * x)
      have hk0 : (0 : Int) ≤ (m : Int) := by omega
      have hkn : (m : Int) < (n : Int) := by omega
      go_wp2
      go_quiet ((first | (go_at_call 41; exact Calls.quiet_of_same (fMul _ _ _ (by omega) (by omega) (by omega) (by omega))) | (go_at_call 13; exact Calls.quiet_of_same (fAdd _ _ _ (by omega) (by omega) (by omega) (by omega)))))
      all_goals
        go_wp2
        go_roundw
        case rel => exact ⟨m, _, _, by omega, by go_num, rfl, (nm_bd _).1, (nm_bd _).2, horner xs x (by omega) HY.out HZ.out, by rw [HW.out, World.drewN_drewN]⟩
        case measure => simp [intOf]

theorem cValue (a : Option Addr) (n c : Nat) (xs : List Int) (x : Int) (w : World) (h : Rd w a n c xs) (hx0 : 0 ≤ x) (hx1 : x ≤ 18446744073709551615) :
    Calls Try.prog 25 #[.slice a n c, .int .u64 x] w fun e w' => e = .returned (.int .u64 (nm (ev xs x))) ∧ Below w.heap.size w w' := by
  refine (cValueQ _ _ _ _ _ _ h hx0 hx1).mono ?_
  rintro e w' ⟨he, q, rfl⟩
  exact ⟨he, drewN_below (Below.refl _ _) q⟩

theorem take_eq {xs ys : List Int} {k : Nat} (h1 : k < xs.length) (h2 : k < ys.length) (h : xs.take k = ys.take k) (e : xs.getD k 0 = ys.getD k 0) : xs.take (k + 1) = ys.take (k + 1) := by
  rw [List.take_succ_eq_append_getElem h1, List.take_succ_eq_append_getElem h2, h]
  congr 2
  simpa [List.getElem?_eq_getElem h1, List.getElem?_eq_getElem h2] using e

theorem nil_rd (w : World) : Rd w none 0 0 [] := ⟨rfl, Nat.le_refl _, Nat.zero_le _, by simp, fun _ => rfl, by simp⟩

end Go.Proofs.Ytoekicjppheemae
