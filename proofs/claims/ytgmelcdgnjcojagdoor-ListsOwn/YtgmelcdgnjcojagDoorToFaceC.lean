/- poly.product. · poly.value, slices.Equal. · poly.Norm, poly.Mul, poly.Eval. -/
import Derived.Test.YtgmelcdgnjcojagDoorToTrimC
import Derived.Test.YtgmelcdgnjcojagDoorToNewtonM
import Derived.Test.YtgmelcdgnjcojagDoorToPolyM
import Derived.Deep.QuietTactic
import Derived.BigQuiet
namespace Go.Proofs.YtgmelcdgnjcojagDoor
open Go.RowKit Crm

theorem get_getD {l : List Int} {k : Nat} (h : k < l.length) : l[k]? = some (l.getD k 0) := by
  rw [List.getD_eq_getElem?_getD, List.getElem?_eq_getElem h]; rfl

theorem addAt_pc (ps qs L : List Int) (m i : Nat) (hm : i + qs.length ≤ m)
    (hL : L = (List.range m).map fun k => nm (pc ps qs k i)) : addAt L i qs (ps.getD i 0) qs.length = (List.range m).map fun k => nm (pc ps qs k (i + 1)) := by
  apply List.ext_getElem?
  intro k
  have hl : L.length = m := by rw [hL]; simp
  by_cases hk : k < m
  · have h1 : k < (addAt L i qs (ps.getD i 0) qs.length).length := by rw [addAt_len, hl]; exact hk
    have e1 : (addAt L i qs (ps.getD i 0) qs.length)[k]? = some ((addAt L i qs (ps.getD i 0) qs.length).getD k 0) := get_getD h1
    rw [e1, addAt_getD, hl]
    have e2 : L.getD k 0 = nm (pc ps qs k i) := by rw [hL]; simp [hk]
    have e3 : ((List.range m).map fun k => nm (pc ps qs k (i + 1)))[k]? = some (nm (pc ps qs k (i + 1))) := by simp [hk]
    rw [e3, e2, pc]
    congr 1
    by_cases h : i ≤ k ∧ k < i + qs.length ∧ k < m
    · rw [if_pos h, nm_addl, tm, if_pos h.1]
    · rw [if_neg h, tm]
      have := hm
      split
      · have : qs.getD (k - i) 0 = 0 := by rw [List.getD_eq_getElem?_getD, List.getElem?_eq_none (by omega)]; rfl
        rw [this, Int.mul_zero, Int.add_zero]
      · rw [Int.add_zero]
  · rw [List.getElem?_eq_none (by rw [addAt_len, hl]; omega), List.getElem?_eq_none (by simp; omega)]

theorem pc_bd (ps qs : List Int) (m i : Nat) : ∀ x ∈ (List.range m).map (fun k => nm (pc ps qs k i)), 0 ≤ x ∧ x ≤ 18446744073709551615 := by
  intro x hx
  obtain ⟨k, _, rfl⟩ := List.mem_map.1 hx
  have := nm_bd (pc ps qs k i)
  omega

set_option maxHeartbeats 400000 in
set_option maxRecDepth 100000 in
theorem cProduct (a : Option Addr) (n c : Nat) (xs : List Int) (b : Option Addr) (m d : Nat) (ys : List Int) (w : World) (h : Rd w a n c xs) (g : Rd w b m d ys) (hn0 : 0 < n) (hm0 : 0 < m) (hn : n ≤ 1000) (hm : m ≤ 1000) :
    Calls Tryd.prog 103 #[.slice a n c, .slice b m d] w fun e w' => e = .returned (.slice (some ⟨w.heap.size, 0, none⟩) (n + m - 1) (n + m - 1)) ∧ Blk w' w.heap.size (cvl xs ys) ∧ Below w.heap.size w w' := by
  obtain ⟨i0, hi, hz0, hz1, hz2⟩ := info_parts info34
  have hlen := h.len
  have glen := g.len
  obtain ⟨r, hr⟩ : ∃ r, r = n + m - 1 := ⟨_, rfl⟩
  have hr1 : (r : Int) = n + m - 1 := by omega
  have HR : Hid (r = n + m - 1) := hr
  have hrn : n ≤ r := by omega
  have hrm : m ≤ r := by omega
  have hrb : r ≤ 2000 := by omega
  rw [← hr]
  clear hr
  go_enter Tryd.func103, Tryd.ntmps103
  go_wp2_with (at_make; refine wpList_make_full _ rfl _ _ 22 rfl w.heap.size 34 i0 (.int .u64 0) 1 Tryd.underlying22 hi hz0 hz1 .i64 .i64 _ _ r rfl rfl (by omega) (by omega) (by rw [hz2]; omega) (by unfold maxLen; omega) (Nat.le_refl _) ?_; intro w1 hown hgrow)
  have hb1 : Blk w1 w.heap.size (List.replicate r 0) := Blk.made hown
  have hbel1 : Below w.heap.size w w1 := (Below.refl _ _).grown hgrow (Nat.le_refl _) (by simp)
  clear hown hgrow
  go_loopw [17] (fun i wr => ∃ k : Nat, k ≤ n ∧ i = .int .i64 k ∧ Blk wr w.heap.size ((List.range r).map fun q => nm (pc xs ys q k)) ∧ Below w.heap.size w wr) (fun i _ => n - (intOf i).toNat)
  case atStart => exact ⟨0, Nat.zero_le _, rfl, by have e : (List.range r).map (fun q => nm (pc xs ys q 0)) = List.replicate r 0 := by { apply List.ext_getElem? ; intro q; by_cases hq : q < r <;> simp [hq, pc, nm] }; rw [e]; exact hb1, hbel1⟩
  case round =>
    obtain ⟨k, hk, rfl, hblk, hbel⟩ := hrel
    by_cases hlt : k < n
    · have gR := g.below hbel
      have hne : ∀ x, b = some x → x.block ≠ w.heap.size := by
        intro x hx
        obtain ⟨b', o', e, hb', _⟩ := g.at hm0
        rw [e] at hx
        obtain rfl := Option.some.inj hx
        simp only
        omega
      obtain ⟨b1, o1, x, rfl, hb, HX, hx0, hx1, hc⟩ := (h.below hbel).one hlt
      have hkr : ¬ r = k := by omega
      have HS : Hid (addAt ((List.range r).map fun q => nm (pc xs ys q k)) k ys x m = (List.range r).map fun q => nm (pc xs ys q (k + 1))) := by
        have := addAt_pc xs ys _ r k (by omega) rfl
        rw [← HX.out]
        rwa [glen] at this
      go_wp2_with (go_at_call 102; refine (cAddTimes _ _ _ _ _ _ _ _ _ _ _ hblk (pc_bd xs ys r k) gR hne (by simp; omega) (by omega) (by omega) hx0 hx1).mono ?_; rintro e w2 ⟨rfl, hb2, hg2⟩; rw [HS.out] at hb2; have hbel2 := below_grown hbel hg2 (Nat.le_refl _); clear hblk hbel hg2 gR hc)
      go_roundw
      case rel => exact ⟨k + 1, by omega, by go_num, hb2, hbel2⟩
      case measure => simp [intOf]; omega
    · have hkn : k = n := by omega
      subst hkn
      go_wp2
      go_ret
      refine ⟨rfl, ?_, hbel⟩
      unfold cvl
      rw [hlen, glen, ← HR.out]
      exact hblk
end Go.Proofs.YtgmelcdgnjcojagDoor

namespace Go.Proofs.YtgmelcdgnjcojagDoor
open Go.RowKit Crm

theorem drewN_below {B : Nat} {a w : World} (h : Below B a w) (n : Nat) : Below B a (w.drewN n) := by
  induction n with
  | zero => exact h
  | succ n ih => exact ih.drew

theorem horner (xs : List Int) (x : Int) {m : Nat} {y z : Int} (h : m < xs.length) (hy : y = nm (ev (xs.drop (m + 1)) x)) (hz : xs.getD m 0 = z) : nm (nm (y * x) + z) = nm (ev (xs.drop m) x) := by
  rw [ev_drop xs x h, hy, hz, nm_addl]
  have : ∀ E : Int, nm (nm E * x + z) = nm (z + x * E) := fun E => by
    rw [Int.add_comm, ← nm_addr, nm_mull, nm_addr, Int.mul_comm x]
  exact this _

set_option maxHeartbeats 400000 in
set_option maxRecDepth 100000 in
theorem cValueQ (a : Option Addr) (n c : Nat) (xs : List Int) (x : Int) (w : World) (h : Rd w a n c xs) (hx0 : 0 ≤ x) (hx1 : x ≤ 18446744073709551615) :
    Calls Tryd.prog 84 #[.slice a n c, .int .u64 x] w fun e w' => e = .returned (.int .u64 (nm (ev xs x))) ∧ ∃ q, w' = w.drewN q := by
  have hm := h.max
  have hcap := h.cap
  have hlen := h.len
  unfold maxLen at hm
  go_enter Tryd.func84, Tryd.ntmps84
  go_wp2
  go_loopw [5, 6] (fun s i wr => ∃ (k : Nat) (y : Int) (q : Nat), k ≤ n ∧ i = .int .i64 ((k : Int) - 1) ∧ s = .int .u64 y ∧ 0 ≤ y ∧ y ≤ 2147483646 ∧ Hid (y = nm (ev (xs.drop k) x)) ∧ wr = w.drewN q) (fun _ i _ => (intOf i + 1).toNat)
  case atStart => exact ⟨n, 0, 0, Nat.le_refl _, rfl, rfl, by omega, by omega, by rw [List.drop_of_length_le (by omega)]; exact rfl, rfl⟩
  case round =>
    obtain ⟨k, y, q, hk, rfl, rfl, hy0, hy1, HY, hwr⟩ := hrel
    have hbel : Below w.heap.size w wr := by rw [hwr]; exact drewN_below (Below.refl _ _) q
    have HW : Hid (wr = w.drewN q) := hwr
    clear hwr
    cases k with
    | zero =>
      go_wp2
      go_ret
      rw [← List.drop_zero (l := xs), ← HY.out]
      exact ⟨rfl, q, HW.out⟩
    | succ m =>
      obtain ⟨b, o, z, rfl, hb, HZ, hz0, hz1, hc⟩ := (h.below hbel).one (show m < n by omega)
      have hmul := nm_bd (y * x)
      have hk0 : (0 : Int) ≤ (m : Int) := by omega
      have hkn : (m : Int) < (n : Int) := by omega
      go_wp2
      go_quiet ((first | (go_at_call 49; exact Calls.quiet_of_same (fMul _ _ _ (by omega) (by omega) (by omega) (by omega))) | (go_at_call 45; exact Calls.quiet_of_same (fAdd _ _ _ (by omega) (by omega) (by omega) (by omega)))))
      all_goals
        go_wp2
        go_roundw
        case rel => exact ⟨m, _, _, by omega, by go_num, rfl, (nm_bd _).1, (nm_bd _).2, horner xs x (by omega) HY.out HZ.out, by rw [HW.out, World.drewN_drewN]⟩
        case measure => simp [intOf]

theorem cValue (a : Option Addr) (n c : Nat) (xs : List Int) (x : Int) (w : World) (h : Rd w a n c xs) (hx0 : 0 ≤ x) (hx1 : x ≤ 18446744073709551615) :
    Calls Tryd.prog 84 #[.slice a n c, .int .u64 x] w fun e w' => e = .returned (.int .u64 (nm (ev xs x))) ∧ Below w.heap.size w w' := by
  refine (cValueQ _ _ _ _ _ _ h hx0 hx1).mono ?_
  rintro e w' ⟨he, q, rfl⟩
  exact ⟨he, drewN_below (Below.refl _ _) q⟩

theorem take_eq {xs ys : List Int} {k : Nat} (h1 : k < xs.length) (h2 : k < ys.length) (h : xs.take k = ys.take k) (e : xs.getD k 0 = ys.getD k 0) : xs.take (k + 1) = ys.take (k + 1) := by
  rw [List.take_succ_eq_append_getElem h1, List.take_succ_eq_append_getElem h2, h]
  congr 2
  simpa [List.getElem?_eq_getElem h1, List.getElem?_eq_getElem h2] using e

set_option maxRecDepth 100000 in
theorem cEqual (a : Option Addr) (n c : Nat) (xs : List Int) (b : Option Addr) (m d : Nat) (ys : List Int) (w : World) (h : Rd w a n c xs) (g : Rd w b m d ys) :
    Calls Tryd.prog 20 #[.slice a n c, .slice b m d] w fun e w' => e = .returned (.bool (xs == ys)) ∧ Below w.heap.size w w' := by
  have hm := h.max
  have hcap := h.cap
  have hlen := h.len
  have gm := g.max
  have gcap := g.cap
  have glen := g.len
  unfold maxLen at hm gm
  by_cases hnm : n = m
  · subst hnm
    go_enter Tryd.func20, Tryd.ntmps20
    go_wp2
    go_loopw [13] (fun i wr => ∃ k : Nat, k ≤ n ∧ i = .int .i64 k ∧ Hid (xs.take k = ys.take k) ∧ Below w.heap.size w wr) (fun i _ => n - (intOf i).toNat)
    case atStart => exact ⟨0, Nat.zero_le _, rfl, rfl, Below.refl _ _⟩
    case round =>
      obtain ⟨k, hk, rfl, HT, hbel⟩ := hrel
      by_cases hlt : k < n
      · obtain ⟨b1, o1, x, rfl, hb1, HX, hx0, hx1, hc1⟩ := (h.below hbel).one hlt
        obtain ⟨b2, o2, y, rfl, hb2, HY, hy0, hy1, hc2⟩ := (g.below hbel).one hlt
        by_cases hxy : x = y
        · subst hxy
          go_wp2
          go_region
          all_goals go_wp2
          all_goals
            go_roundw
            case rel => exact ⟨k + 1, by omega, by go_num, take_eq (by omega) (by omega) HT.out (HX.out.trans HY.out.symm), by first | exact hbel.drew | exact hbel.drew.drew⟩
            case measure => simp [intOf]; omega
        · have hxb : (x != y) = true := by rw [bne_iff_ne]; exact hxy
          go_wp2
          have HE : Hid ((xs == ys) = false) := by
            refine beq_eq_false_iff_ne.2 fun e => hxy ?_
            rw [← HX.out, ← HY.out, e]
          go_region
          all_goals go_wp2
          all_goals
            go_ret
            rw [HE.out]
            exact ⟨rfl, by first | exact hbel.drew | exact hbel.drew.drew⟩
      · have HE : Hid ((xs == ys) = true) := by
          refine beq_iff_eq.2 ?_
          have := HT.out
          rwa [List.take_of_length_le (by omega), List.take_of_length_le (by omega)] at this
        go_wp2
        go_ret
        rw [HE.out]
        exact ⟨rfl, hbel⟩
  · have hb : ((n : Int) != (m : Int)) = true := by rw [bne_iff_ne]; omega
    go_enter Tryd.func20, Tryd.ntmps20
    have HE : Hid ((xs == ys) = false) := beq_eq_false_iff_ne.2 fun e => hnm (by rw [← hlen, ← glen, e])
    go_wp2
    go_ret
    rw [HE.out]
    exact ⟨rfl, Below.refl _ _⟩

theorem nil_rd (w : World) : Rd w none 0 0 [] := ⟨rfl, Nat.le_refl _, Nat.zero_le _, by simp, fun _ => rfl, by simp⟩

/-- Two slices that read the same are equal. -/
theorem cSame (a : Option Addr) (n c : Nat) (xs : List Int) (b : Option Addr) (m d : Nat) (w : World) (h : Rd w a n c xs) (g : Rd w b m d xs) :
    Calls Tryd.prog 20 #[.slice a n c, .slice b m d] w fun e w' => e = .returned (.bool true) ∧ Below w.heap.size w w' := by
  refine (cEqual _ _ _ _ _ _ _ _ _ h g).mono ?_
  rintro e w' ⟨rfl, hb⟩
  exact ⟨by rw [beq_self_eq_true], hb⟩
end Go.Proofs.YtgmelcdgnjcojagDoor

namespace Go.Proofs.YtgmelcdgnjcojagDoor
open Go.RowKit Crm

/-- What normal has made reads as the normal polynomial. -/
theorem Blk.nrm {w : World} {g n : Nat} {xs : List Int} (h : Blk w g (nz xs)) (hl : xs.length = n) (hn : n ≤ 1000000) : Rd w (some ⟨g, 0, none⟩) (tl (nz xs) n) n (Crm.nrm xs) := by
  have ht := tl_le (nz xs) n
  have := h.rd 0 (tl (nz xs) n) n ht (by unfold maxLen; omega) (by rw [nz_len]; omega) (nz_bd xs)
  rw [List.drop_zero] at this
  have e : Crm.nrm xs = (nz xs).take (tl (nz xs) n) := by unfold Crm.nrm trm; rw [nz_len, hl]
  rw [e]
  exact this

set_option maxRecDepth 100000 in
theorem cNormL (a : Option Addr) (n c : Nat) (w : World) (hm : n ≤ 9223372036854775807) (hn : 40 < n) :
    Calls Tryd.prog 19 #[.slice a n c] w fun e w' => e = .returned (.tuple #[.slice none 0 0, .int .i64 2]) ∧ w' = w := by
  go_enter Tryd.func19, Tryd.ntmps19
  go_wp2
  go_ret2
  exact ⟨rfl, rfl⟩

set_option maxRecDepth 100000 in
theorem cNormOK (a : Option Addr) (n c : Nat) (xs : List Int) (w : World) (h : Rd w a n c xs) (hn : n ≤ 40) :
    Calls Tryd.prog 19 #[.slice a n c] w fun e w' => e = .returned (.tuple #[.slice (some ⟨w.heap.size, 0, none⟩) (tl (nz xs) n) n, .int .i64 0]) ∧ Rd w' (some ⟨w.heap.size, 0, none⟩) (tl (nz xs) n) n (nrm xs) ∧ Below w.heap.size w w' := by
  go_enter Tryd.func19, Tryd.ntmps19
  go_wp2_with (go_at_call 60; refine (cNormal _ _ _ _ _ h (by omega)).mono ?_; rintro e w1 ⟨rfl, hb, hbel⟩)
  go_ret2
  exact ⟨rfl, hb.nrm h.len (by omega), hbel⟩

set_option maxRecDepth 100000 in
theorem cEvalL (a : Option Addr) (n c : Nat) (x : Int) (w : World) (hm : n ≤ 9223372036854775807) (hn : 40 < n) :
    Calls Tryd.prog 53 #[.slice a n c, .int .u64 x] w fun e w' => e = .returned (.tuple #[.int .u64 0, .int .i64 2]) ∧ w' = w := by
  go_enter Tryd.func53, Tryd.ntmps53
  go_wp2
  go_ret2
  exact ⟨rfl, rfl⟩

set_option maxRecDepth 100000 in
theorem cEvalOK (a : Option Addr) (n c : Nat) (xs : List Int) (x : Int) (w : World) (h : Rd w a n c xs) (hn : n ≤ 40) (hx0 : 0 ≤ x) (hx1 : x ≤ 18446744073709551615) :
    Calls Tryd.prog 53 #[.slice a n c, .int .u64 x] w fun e w' => e = .returned (.tuple #[.int .u64 (nm (ev xs x)), .int .i64 0]) ∧ Below w.heap.size w w' := by
  go_enter Tryd.func53, Tryd.ntmps53
  go_wp2_with (go_at_call 84; refine (cValue _ _ _ _ _ _ h hx0 hx1).mono ?_; rintro e w1 ⟨rfl, hbel⟩)
  go_ret2
  exact ⟨rfl, hbel⟩

end Go.Proofs.YtgmelcdgnjcojagDoor
