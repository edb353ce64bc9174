/- poly.addTimes. · poly.trim, poly.normal. -/
import Derived.Test.YtoekicjppheemaeToFieldC
import Derived.Test.YtoekicjppheemaeToPolyM2
import Derived.Test.YtoekicjppheemaeToMath
import Derived.Deep.RegionWith
namespace Go.Proofs.Ytoekicjppheemae
open Go.RowKit Crm

set_option maxHeartbeats 400000 in
set_option maxRecDepth 100000 in
theorem cAddTimes (g o n c : Nat) (L : List Int) (ab : Option Addr) (lb cb : Nat) (B : List Int) (t : Int) (w : World)
    (hL : Blk w g L) (hLb : ∀ x ∈ L, 0 ≤ x ∧ x ≤ 18446744073709551615) (hB : Rd w ab lb cb B) (hne : ∀ x, ab = some x → x.block ≠ g) (hon : o + n ≤ L.length) (hlb : lb ≤ n) (hn : n ≤ 1000000) (ht0 : 0 ≤ t) (ht1 : t ≤ 18446744073709551615) :
    Calls Try.prog 60 #[.slice (some ⟨g, o, none⟩) n c, .slice ab lb cb, .int .u64 t] w fun e w' => e = .returned (.tuple #[]) ∧ Blk w' g (addAt L o B t lb) ∧ w.grownBy w' (some g) := by
  have hlen := hB.len
  go_enter Try.func60, Try.ntmps60
  go_wp2
  go_loopw [10] (fun i wr => ∃ k : Nat, k ≤ lb ∧ i = .int .i64 k ∧ Blk wr g (addAt L o B t k) ∧ w.grownBy wr (some g)) (fun i _ => lb - (intOf i).toNat)
  case atStart => exact ⟨0, Nat.zero_le _, rfl, hL, World.grownBy.refl _ _⟩
  case round =>
    obtain ⟨k, hk, rfl, hblk, hgr⟩ := hrel
    by_cases hlt : k < lb
    · have hBr : Rd wr ab lb cb B := hB.grown hgr (fun x hx => by simpa using hne x hx)
      obtain ⟨b, ob, x, rfl, hb, HX, hx0, hx1, hc⟩ := hBr.one hlt
      have hbg : b ≠ g := hne _ rfl
      have hcell := hblk.cell (i := o + k) (by rw [addAt_len]; omega)
      have hfz := hblk.frozen (o + k)
      obtain ⟨y, hy⟩ : ∃ y, y = (addAt L o B t k).getD (o + k) 0 := ⟨_, rfl⟩
      have HY : Hid (y = L.getD (o + k) 0) := by rw [hy, addAt_getD, if_neg (by omega)]; exact rfl
      have hyb : 0 ≤ y ∧ y ≤ 18446744073709551615 := by rw [hy]; exact getD_bd (addAt_bd hLb o B t k) _
      rw [← hy] at hcell
      clear hy
      have hm := nm_bd (t * x)
      have hk0 : (0 : Int) ≤ (k : Int) := by omega
      have hkn : (k : Int) < (n : Int) := by omega
      have Hblk' : Hid (Blk (wr.setCell ⟨g, o + k, none⟩ (.int .u64 (nm (y + nm (t * x))))) g (addAt L o B t (k + 1))) := by
        have e : nm (y + nm (t * x)) = nm (L.getD (o + k) 0 + t * B.getD k 0) := by rw [nm_addr, HY.out, HX.out]
        rw [e]
        exact hblk.set (o + k) _
      have Hgr' : Hid (w.grownBy (wr.setCell ⟨g, o + k, none⟩ (.int .u64 (nm (y + nm (t * x))))) (some g)) := grown_trans hgr (grown_set _ _ _ _)
      clear hblk hgr hBr hB hL
      go_wp2
      go_region_with (first | (go_at_call 41; refine (fMul _ _ _ (by omega) (by omega) (by omega) (by omega)).mono ?_; rintro e w' ⟨rfl, rfl⟩) | (go_at_call 13; refine (fAdd _ _ _ (by omega) (by omega) (by omega) (by omega)).mono ?_; rintro e w' ⟨rfl, rfl⟩))
      all_goals
        go_wp2
        go_roundw
        case rel => exact ⟨k + 1, by omega, by go_num, Hblk'.out, grown_drew Hgr'.out⟩
        case measure => simp [intOf]; omega
    · have hkl : k = lb := by omega
      subst hkl
      go_wp2
      exact bodyPost_end (v := .tuple #[]) (by simp [results, Try.results60, go_sem]) rfl ⟨rfl, hblk, hgr⟩
end Go.Proofs.Ytoekicjppheemae

namespace Go.Proofs.Ytoekicjppheemae
open Go.RowKit Crm

set_option maxRecDepth 100000 in
theorem cTrim (a : Option Addr) (n c : Nat) (xs : List Int) (w : World) (h : Rd w a n c xs) :
    Calls Try.prog 58 #[.slice a n c] w fun e w' => e = .returned (.slice a (tl xs n) c) ∧ w' = w := by
  have hm := h.max
  have hcap := h.cap
  unfold maxLen at hm
  go_enter Try.func58, Try.ntmps58
  go_wp2
  go_loop [3] (fun v => ∃ k : Nat, k ≤ n ∧ v = .int .i64 k ∧ Hid (tl xs n = tl xs k)) (fun v => (intOf v).toNat)
  case atStart => exact ⟨n, Nat.le_refl _, rfl, rfl⟩
  case round =>
    obtain ⟨k, hk, rfl, HR⟩ := hrel
    cases k with
    | zero =>
      go_wp2
      go_ret
      rw [HR.out]
      exact ⟨rfl, rfl⟩
    | succ m =>
      obtain ⟨b, o, x, rfl, hb, HX, hx0, hx1, hc⟩ := h.one (show m < n by omega)
      by_cases hx : x = 0
      · subst hx
        go_wp2
        go_round
        case rel => exact ⟨m, by omega, rfl, HR.out.trans (tl_zero xs HX.out)⟩
        case measure => simp [intOf]
      · have hxb : (x == 0) = false := by rw [beq_eq_false_iff_ne]; exact hx
        have HL : Hid (tl xs n = m + 1) := HR.out.trans (tl_last xs (by rw [HX.out]; exact hx))
        go_wp2
        go_ret
        rw [HL.out]
        exact ⟨rfl, rfl⟩

/-- The first k numbers of L are those of nz xs, the rest 0. -/
theorem info22 : (Try.prog.info? 22).map (fun i => (i.zero, i.size, i.bytes)) = some (some (.int .u64 0), 1, 8) := by kernel_rfl

theorem fill_step (xs L : List Int) (k : Nat) (hk : k < xs.length) (hL : L = (nz xs).take k ++ List.replicate (xs.length - k) 0) :
    L.set k (nm (xs.getD k 0)) = (nz xs).take (k + 1) ++ List.replicate (xs.length - (k + 1)) 0 := by
  subst hL
  have hl : ((nz xs).take k).length = k := by simp [nz_len]; omega
  rw [List.set_append_right _ _ (by omega), hl, Nat.sub_self]
  have : xs.length - k = (xs.length - (k + 1)) + 1 := by omega
  rw [this, List.replicate_succ, List.set_cons_zero]
  rw [List.take_succ_eq_append_getElem (show k < (nz xs).length by rw [nz_len]; exact hk), List.append_assoc]
  congr 1
  rw [← nz_getD]
  simp [List.getElem?_eq_getElem (show k < (nz xs).length by rw [nz_len]; exact hk)]

set_option maxRecDepth 100000 in
theorem cNormal (a : Option Addr) (n c : Nat) (xs : List Int) (w : World) (h : Rd w a n c xs) (hn : n ≤ 1000000) :
    Calls Try.prog 53 #[.slice a n c] w fun e w' => e = .returned (.slice (some ⟨w.heap.size, 0, none⟩) (tl (nz xs) n) n) ∧ Blk w' w.heap.size (nz xs) ∧ Below w.heap.size w w' := by
  obtain ⟨i0, hi, hz0, hz1, hz2⟩ := info_parts info22
  have hlen := h.len
  go_enter Try.func53, Try.ntmps53
  go_wp2_with (at_make; refine wpList_make_full _ rfl _ _ 23 rfl w.heap.size 22 i0 (.int .u64 0) 1 Try.underlying23 hi hz0 hz1 .i64 .i64 _ _ n rfl rfl (by omega) (by omega) (by rw [hz2]; omega) (by unfold maxLen; omega) (Nat.le_refl _) ?_; intro w1 hown hgrow)
  have hb1 : Blk w1 w.heap.size (List.replicate n 0) := Blk.made hown
  have hbel1 : Below w.heap.size w w1 := (Below.refl _ _).grown hgrow (Nat.le_refl _) (by simp)
  clear hown hgrow
  go_loopw [11] (fun i wr => ∃ k : Nat, k ≤ n ∧ i = .int .i64 k ∧ Blk wr w.heap.size ((nz xs).take k ++ List.replicate (xs.length - k) 0) ∧ Below w.heap.size w wr) (fun i _ => n - (intOf i).toNat)
  case atStart => exact ⟨0, Nat.zero_le _, rfl, by simpa [hlen] using hb1, hbel1⟩
  case round =>
    obtain ⟨k, hk, rfl, hblk, hbel⟩ := hrel
    by_cases hlt : k < n
    · obtain ⟨b, o, x, rfl, hb, HX, hx0, hx1, hc⟩ := (h.below hbel).one hlt
      have hcell := hblk.cell (i := k) (by simp [nz_len]; omega)
      have hfz := hblk.frozen k
      have hblk' : Blk (wr.setCell ⟨w.heap.size, k, none⟩ (.int .u64 (nm x))) w.heap.size ((nz xs).take (k + 1) ++ List.replicate (xs.length - (k + 1)) 0) := by
        rw [← fill_step xs _ k (by omega) rfl, HX.out]
        exact hblk.set k _
      have Hbel' : Hid (Below w.heap.size w (wr.setCell ⟨w.heap.size, k, none⟩ (.int .u64 (nm x)))) := hbel.setCell (Nat.le_refl _) _
      clear hblk hbel
      go_wp2_with (go_at_call 11; refine (fNorm _ _ (by omega) (by omega)).mono ?_; rintro e w' ⟨rfl, rfl⟩)
      go_roundw
      case rel => exact ⟨k + 1, by omega, by go_num, hblk', Hbel'.out⟩
      case measure => simp [intOf]; omega
    · have hkn : k = n := by omega
      subst hkn
      rw [List.take_of_length_le (by rw [nz_len]; omega), show xs.length - k = 0 by omega, List.replicate_zero, List.append_nil] at hblk
      have hr : Rd wr (some ⟨w.heap.size, 0, none⟩) k k (nz xs) := by
        have := hblk.rd 0 k k (Nat.le_refl _) (by unfold maxLen; omega) (by rw [nz_len]; omega) (nz_bd xs)
        rwa [List.drop_zero, List.take_of_length_le (by rw [nz_len]; omega)] at this
      go_wp2_with (go_at_call 58; refine (cTrim _ _ _ _ _ hr).mono ?_; rintro e w' ⟨rfl, rfl⟩)
      go_ret
      exact ⟨rfl, hblk, hbel⟩
end Go.Proofs.Ytoekicjppheemae
