/- poly.addTimes. · poly.product. -/
import Derived.Test.YtljlioglpaogdadToIntsC
import Derived.Test.YtljlioglpaogdadToPolyM3
import Derived.Test.YtljlioglpaogdadToOwnC
import Derived.Deep.RegionWith
namespace Go.Proofs.Ytljlioglpaogdad
set_option linter.unusedVariables false
set_option maxRecDepth 100000
set_option maxHeartbeats 8000000
section
open Crm Go.RowKit
theorem cAddTimes (g o n c : Nat) (L : List Int) (ab : Option Addr) (lb cb : Nat) (B : List Int) (t : Int) (w : World)
    (hL : Blk w g L) (hLb : ∀ x ∈ L, 0 ≤ x ∧ x ≤ 18446744073709551615) (hB : Rd w ab lb cb B) (hne : ∀ x, ab = some x → x.block ≠ g) (hon : o + n ≤ L.length) (hlb : lb ≤ n) (hn : n ≤ 1000000) (ht0 : 0 ≤ t) (ht1 : t ≤ 18446744073709551615) :
    Calls Try.prog 43 #[.slice (some ⟨g, o, none⟩) n c, .slice ab lb cb, .int .u64 t] w fun e w' => e = .returned (.tuple #[]) ∧ Blk w' g (addAt L o B t lb) ∧ w.grownBy w' (some g) := by
  have hlen := hB.len
  go_enter Try.func43, Try.ntmps43
  go_wp2
  go_loopw [10] (fun i wr => ∃ k : Nat, k ≤ lb ∧ i = .int .i64 k ∧ Blk wr g (addAt L o B t k) ∧ w.grownBy wr (some g)) (fun i _ => lb - (intOf i).toNat)
  case atStart => exact ⟨0, Nat.zero_le _, rfl, hL, World.grownBy.refl _ _⟩
  case round =>
    obtain ⟨k, hk, rfl, hblk, hgr⟩ := hrel
    by_cases hlt : k < lb
    · have hBr : Rd wr ab lb cb B := hB.grown hgr (fun x hx => by simpa using hne x hx)
      obtain ⟨b, ob, x, rfl, hb, HX, hx0, hx1, hc⟩ := hBr.one hlt
      have hbg : b ≠ g := hne _ rfl
      have hcell := hblk.cell (i := o + k) (by rw [addAt_len]; omega)
      have hfz := hblk.frozen (o + k)
      obtain ⟨y, hy⟩ : ∃ y, y = (addAt L o B t k).getD (o + k) 0 := ⟨_, rfl⟩
      have HY : Hid (y = L.getD (o + k) 0) := by rw [hy, addAt_getD, if_neg (by omega)]; exact rfl
      have hyb : 0 ≤ y ∧ y ≤ 18446744073709551615 := by rw [hy]; exact getD_bd (addAt_bd hLb o B t k) _
      rw [← hy] at hcell
      clear hy
      have hm := nm_bd (t * x)
      have hk0 : (0 : Int) ≤ (k : Int) := by omega
      have hkn : (k : Int) < (n : Int) := by omega
      have Hblk' : Hid (Blk (wr.setCell ⟨g, o + k, none⟩ (.int .u64 (nm (y + nm (t * x))))) g (addAt L o B t (k + 1))) := by
        have e : nm (y + nm (t * x)) = nm (L.getD (o + k) 0 + t * B.getD k 0) := by rw [nm_addr, HY.out, HX.out]
        rw [e]
        exact hblk.set (o + k) _
      have Hgr' : Hid (w.grownBy (wr.setCell ⟨g, o + k, none⟩ (.int .u64 (nm (y + nm (t * x))))) (some g)) := grown_trans hgr (grown_set _ _ _ _)
      clear hblk hgr hBr hB hL
      go_wp2
      go_region_with (first | (go_at_call 15; refine (fMul _ _ _ (by omega) (by omega) (by omega) (by omega)).mono ?_; rintro e w' ⟨rfl, rfl⟩) | (go_at_call 20; refine (fAdd _ _ _ (by omega) (by omega) (by omega) (by omega)).mono ?_; rintro e w' ⟨rfl, rfl⟩))
      all_goals
        go_wp2
        go_roundw
        case rel => exact ⟨k + 1, by omega, by go_num, Hblk'.out, grown_drew Hgr'.out⟩
        case measure => simp [intOf]; omega
    · have hkl : k = lb := by omega
      subst hkl
      go_wp2
      exact bodyPost_end (v := .tuple #[]) (by simp [results, Try.results43, go_sem]) rfl ⟨rfl, hblk, hgr⟩
theorem get_getD {l : List Int} {k : Nat} (h : k < l.length) : l[k]? = some (l.getD k 0) := by
  rw [List.getD_eq_getElem?_getD, List.getElem?_eq_getElem h]; rfl

theorem addAt_pc (ps qs L : List Int) (m i : Nat) (hm : i + qs.length ≤ m)
    (hL : L = (List.range m).map fun k => nm (pc ps qs k i)) : addAt L i qs (ps.getD i 0) qs.length = (List.range m).map fun k => nm (pc ps qs k (i + 1)) := by
  apply List.ext_getElem?
  intro k
  have hl : L.length = m := by rw [hL]; simp
  by_cases hk : k < m
  · have h1 : k < (addAt L i qs (ps.getD i 0) qs.length).length := by rw [addAt_len, hl]; exact hk
    have e1 : (addAt L i qs (ps.getD i 0) qs.length)[k]? = some ((addAt L i qs (ps.getD i 0) qs.length).getD k 0) := get_getD h1
    rw [e1, addAt_getD, hl]
    have e2 : L.getD k 0 = nm (pc ps qs k i) := by rw [hL]; simp [hk]
    have e3 : ((List.range m).map fun k => nm (pc ps qs k (i + 1)))[k]? = some (nm (pc ps qs k (i + 1))) := by simp [hk]
    rw [e3, e2, pc]
    congr 1
    by_cases h : i ≤ k ∧ k < i + qs.length ∧ k < m
    · rw [if_pos h, nm_addl, tm, if_pos h.1]
    · rw [if_neg h, tm]
      have := hm
      split
      · have : qs.getD (k - i) 0 = 0 := by rw [List.getD_eq_getElem?_getD, List.getElem?_eq_none (by omega)]; rfl
        rw [this, Int.mul_zero, Int.add_zero]
      · rw [Int.add_zero]
  · rw [List.getElem?_eq_none (by rw [addAt_len, hl]; omega), List.getElem?_eq_none (by simp; omega)]

theorem pc_bd (ps qs : List Int) (m i : Nat) : ∀ x ∈ (List.range m).map (fun k => nm (pc ps qs k i)), 0 ≤ x ∧ x ≤ 18446744073709551615 := by
  intro x hx
  obtain ⟨k, _, rfl⟩ := List.mem_map.1 hx
  have := nm_bd (pc ps qs k i)
  omega

theorem cProduct (a : Option Addr) (n c : Nat) (xs : List Int) (b : Option Addr) (m d : Nat) (ys : List Int) (w : World) (h : Rd w a n c xs) (g : Rd w b m d ys) (hn0 : 0 < n) (hm0 : 0 < m) (hn : n ≤ 1000) (hm : m ≤ 1000) :
    Calls Try.prog 40 #[.slice a n c, .slice b m d] w fun e w' => e = .returned (.slice (some ⟨w.heap.size, 0, none⟩) (n + m - 1) (n + m - 1)) ∧ Blk w' w.heap.size (cvl xs ys) ∧ Below w.heap.size w w' := by
  obtain ⟨i0, hi, hz0, hz1, hz2⟩ := info_parts info23
  have hlen := h.len
  have glen := g.len
  obtain ⟨r, hr⟩ : ∃ r, r = n + m - 1 := ⟨_, rfl⟩
  have hr1 : (r : Int) = n + m - 1 := by omega
  have HR : Hid (r = n + m - 1) := hr
  have hrn : n ≤ r := by omega
  have hrm : m ≤ r := by omega
  have hrb : r ≤ 2000 := by omega
  rw [← hr]
  clear hr
  go_enter Try.func40, Try.ntmps40
  go_wp2_with (at_make; refine wpList_make_full _ rfl _ _ 22 rfl w.heap.size 23 i0 (.int .u64 0) 1 Try.underlying22 hi hz0 hz1 .i64 .i64 _ _ r rfl rfl (by omega) (by omega) (by rw [hz2]; omega) (by unfold maxLen; omega) (Nat.le_refl _) ?_; intro w1 hown hgrow)
  have hb1 : Blk w1 w.heap.size (List.replicate r 0) := Blk.made hown
  have hbel1 : Below w.heap.size w w1 := (Below.refl _ _).grown hgrow (Nat.le_refl _) (by simp)
  clear hown hgrow
  go_loopw [17] (fun i wr => ∃ k : Nat, k ≤ n ∧ i = .int .i64 k ∧ Blk wr w.heap.size ((List.range r).map fun q => nm (pc xs ys q k)) ∧ Below w.heap.size w wr) (fun i _ => n - (intOf i).toNat)
  case atStart => exact ⟨0, Nat.zero_le _, rfl, by have e : (List.range r).map (fun q => nm (pc xs ys q 0)) = List.replicate r 0 := by { apply List.ext_getElem? ; intro q; by_cases hq : q < r <;> simp [hq, pc, nm] }; rw [e]; exact hb1, hbel1⟩
  case round =>
    obtain ⟨k, hk, rfl, hblk, hbel⟩ := hrel
    by_cases hlt : k < n
    · have gR := g.below hbel
      have hne : ∀ x, b = some x → x.block ≠ w.heap.size := by
        intro x hx
        obtain ⟨b', o', e, hb', _⟩ := g.at hm0
        rw [e] at hx
        obtain rfl := Option.some.inj hx
        simp only
        omega
      obtain ⟨b1, o1, x, rfl, hb, HX, hx0, hx1, hc⟩ := (h.below hbel).one hlt
      have hkr : ¬ r = k := by omega
      have HS : Hid (addAt ((List.range r).map fun q => nm (pc xs ys q k)) k ys x m = (List.range r).map fun q => nm (pc xs ys q (k + 1))) := by
        have := addAt_pc xs ys _ r k (by omega) rfl
        rw [← HX.out]
        rwa [glen] at this
      go_wp2_with (go_at_call 43; refine (cAddTimes _ _ _ _ _ _ _ _ _ _ _ hblk (pc_bd xs ys r k) gR hne (by simp; omega) (by omega) (by omega) hx0 hx1).mono ?_; rintro e w2 ⟨rfl, hb2, hg2⟩; rw [HS.out] at hb2; have hbel2 := below_grown hbel hg2 (Nat.le_refl _); clear hblk hbel hg2 gR hc)
      go_roundw
      case rel => exact ⟨k + 1, by omega, by go_num, hb2, hbel2⟩
      case measure => simp [intOf]; omega
    · have hkn : k = n := by omega
      subst hkn
      go_wp2
      go_ret
      refine ⟨rfl, ?_, hbel⟩
      unfold cvl
      rw [hlen, glen, ← HR.out]
      exact hblk
end
end Go.Proofs.Ytljlioglpaogdad
