/- croftref.Sum. · poly.Through. · croftref.Product. -/
import Derived.Test.YtgmelcdgnjcojagDoorToRefPolyC
import Derived.Test.YtgmelcdgnjcojagDoorToShares
import Derived.Test.YtgmelcdgnjcojagDoorToNewtonM
import Derived.Test.YtgmelcdgnjcojagDoorToIntsC
import Derived.Test.YtgmelcdgnjcojagDoorToTellsM
import Derived.Deep.QuietTactic
import Derived.BigQuiet
import Derived.Test.YtgmelcdgnjcojagDoorToValC
namespace Go.Proofs.YtgmelcdgnjcojagDoor
open Go.RowKit Crm

def smk (ps qs : List Int) (k : Nat) : List Int := (List.range k).map fun i => nm (ps.getD i 0 + qs.getD i 0)
theorem smk_step (ps qs : List Int) (k : Nat) {v : Int} (e : v = nm (ps.getD k 0 + qs.getD k 0)) : smk ps qs k ++ [v] = smk ps qs (k + 1) := by
  unfold smk
  rw [List.range_succ, List.map_append, e]
  rfl
theorem smk_bd (ps qs : List Int) (k : Nat) : ∀ x ∈ smk ps qs k, 0 ≤ x ∧ x ≤ 18446744073709551615 := by
  intro x hx
  obtain ⟨k, _, rfl⟩ := List.mem_map.1 hx
  have := nm_bd (ps.getD k 0 + qs.getD k 0)
  omega

theorem own_base {w : World} {B B' n : Nat} {E : TypeId} {v : Value} {xs : List Value} (h : w.ownsRow B E 1 v n xs) (hB : B' ≤ B) : w.ownsRow B' E 1 v n xs := by
  rcases h.2 with h' | ⟨g, cap, cur, e1, e2, e3⟩
  · exact ⟨h.1, Or.inl h'⟩
  · exact ⟨h.1, Or.inr ⟨g, cap, cur, e1, by omega, e3⟩⟩

end Go.Proofs.YtgmelcdgnjcojagDoor

namespace Go.Proofs.YtgmelcdgnjcojagDoor
open Go.RowKit Crm

set_option maxRecDepth 100000 in
theorem cThroughL (a : Option Addr) (n c : Nat) (w : World) (hm : n ≤ 9223372036854775807) (hn : 40 < n) :
    Calls Tryd.prog 75 #[.slice a n c] w fun e w' => e = .returned (.tuple #[.slice none 0 0, .int .i64 2]) ∧ w' = w := by
  go_enter Tryd.func75, Tryd.ntmps75
  go_wp2
  go_ret2
  exact ⟨rfl, rfl⟩

set_option maxRecDepth 100000 in
theorem cThroughN (a : Option Addr) (n c : Nat) (l : List (Int × Int)) (w : World) (h : RdS w a n c l) (hn : n ≤ 40) (ho : ¬ okk l n) :
    Calls Tryd.prog 75 #[.slice a n c] w fun e w' => e = .returned (.tuple #[.slice none 0 0, .int .i64 5]) ∧ Below w.heap.size w w' := by
  have HO : Hid (¬ okk l n) := ho
  clear ho
  go_enter Tryd.func75, Tryd.ntmps75
  go_wp2_with fail
  refine (cPlaced _ _ _ _ _ h (by omega)).mono ?_
  rintro e w1 ⟨r, rfl, hr, hb⟩
  obtain rfl : r = false := by cases r with | false => rfl | true => exact absurd (hr.1 rfl) HO.out
  clear hr
  go_wp2
  go_ret2
  exact ⟨rfl, hb⟩

/-- A row that a list's text lays. -/
theorem Blk.lit1 (w : World) (x : Int) : Blk (w.alloc (.cells #[.int .u64 x] 34)) w.heap.size [x] := heap_alloc_new w _
theorem Blk.lit2 (w : World) (x y : Int) : Blk (w.alloc (.cells #[.int .u64 x, .int .u64 y] 34)) w.heap.size [x, y] := heap_alloc_new w _

set_option maxRecDepth 100000 in
set_option maxHeartbeats 1000000 in
theorem cThroughOK (a : Option Addr) (n c : Nat) (l : List (Int × Int)) (w : World) (h : RdS w a n c l) (hn : n ≤ 40) (ho : okk l n) :
    Calls Tryd.prog 75 #[.slice a n c] w fun e w' => ∃ S g, e = .returned (.tuple #[.slice (some ⟨g, 0, none⟩) (tl S n) n, .int .i64 0]) ∧ S.length = n ∧ (∀ x ∈ S, 0 ≤ x ∧ x ≤ 2147483646) ∧
      (∀ j, j < n → nm (ev S (l.getD j (0, 0)).1) = nm (l.getD j (0, 0)).2) ∧ Rd w' (some ⟨g, 0, none⟩) (tl S n) n (trm S) ∧ Below w.heap.size w w' := by
  obtain ⟨i0, hi, hz0, hz1, hz2⟩ := info_parts info34
  have HO : Hid (okk l n) := ho
  clear ho
  have hlen := h.len
  go_enter Tryd.func75, Tryd.ntmps75
  go_wp2_with fail
  refine (cPlaced _ _ _ _ _ h (by omega)).mono ?_
  rintro e w1 ⟨r, rfl, hr, hb1⟩
  obtain rfl : r = true := hr.2 HO.out
  clear hr
  have hs1 := hb1.size
  go_wp2_with (at_make; refine wpList_make_full _ rfl _ _ 22 rfl w1.heap.size 34 i0 (.int .u64 0) 1 Tryd.underlying22 hi hz0 hz1 .i64 .i64 _ _ n rfl rfl (by omega) (by omega) (by rw [hz2]; omega) (by unfold maxLen; omega) (Nat.le_refl _) ?_; intro w2 hown hgrow)
  have hB2 : Blk w2 w1.heap.size (List.replicate n 0) := Blk.made hown
  have hb2 : Below w1.heap.size w1 w2 := (Below.refl _ _).grown hgrow (Nat.le_refl _) (by simp)
  have hb12 : Below w.heap.size w w2 := hb1.trans (hb2.mono hs1)
  clear hown hgrow
  obtain ⟨g1, hg1⟩ : ∃ g1, g1 = w1.heap.size := ⟨_, rfl⟩
  rw [← hg1] at hB2 hs1 ⊢
  clear hg1 hb2 hb1
  have hgl := hB2.lt
  go_loopw [5, 24] (fun z i wr => ∃ (k : Nat) (S Z : List Int) (gz : Nat), k ≤ n ∧ i = .int .i64 k ∧ z = .slice (some ⟨gz, 0, none⟩) (k + 1) (k + 1) ∧ Hid (NwI l n k S Z) ∧ Blk wr g1 S ∧ Blk wr gz Z ∧ gz ≠ g1 ∧ Below w.heap.size w wr) (fun _ i _ => n - (intOf i).toNat)
  case atStart => exact ⟨0, _, _, _, Nat.zero_le _, rfl, rfl, nw_start l n, hB2.below ((Below.refl _ _).alloc (Nat.le_refl _) _) hgl, Blk.lit1 _ _, by omega, hb12.alloc (hb12.size) _⟩
  case round =>
    obtain ⟨k, S, Z, gz, hk, rfl, rfl, HI, hbs, hbz, hne, hbel⟩ := hrel
    have hls := HI.out.ls
    have hlz := HI.out.lz
    have HBS : Hid (∀ x ∈ S, 0 ≤ x ∧ x ≤ 2147483646) := HI.out.bs
    have HBZ : Hid (∀ x ∈ Z, 0 ≤ x ∧ x ≤ 2147483646) := HI.out.bz
    by_cases hlt : k < n
    · obtain ⟨b, o, x, y, rfl, hbb, HX, HY, hx0, hx1, hy0, hy1, hcx, hcy⟩ := (h.below hbel).one hlt
      have hxo := (HO.out k hlt).1
      rw [HX.out] at hxo
      have hxo1 := hxo.1
      have hxo2 := hxo.2
      have HE : Hid (nm (nm (ev Z x)) ≠ 0) := by rw [nm_nm, ← HX.out]; exact HI.out.z1 k (Nat.le_refl _) hlt
      have hnS := nm_bd (ev S x)
      have hnZ := nm_bd (ev Z x)
      have hnL := nm_bd (y - nm (ev S x))
      have hiv := iv_bd (nm (ev Z x))
      have hnX := nm_bd (-x)
      have hbA : Below wr.heap.size wr (wr.alloc (.cells #[.int .i64 x, .int .u64 y] 68)) := (Below.refl _ _).alloc (Nat.le_refl _) _
      have hcA0 := cell_alloc0 wr (.int .i64 x) (.int .u64 y) 68
      have hcA1 := cell_alloc1 wr (.int .i64 x) (.int .u64 y) 68
      go_wp2
      generalize hW : wr.alloc (.cells #[.int .i64 x, .int .u64 y] 68) = W at *
      clear hW
      have hbelW : Below w.heap.size w W := hbel.trans (hbA.mono hbel.size)
      have hbsW := hbs.below hbA hbs.lt
      have hbzW := hbz.below hbA hbz.lt
      have rS : Rd W (some ⟨g1, 0, none⟩) n n S := hbsW.whole n hls.symm (by unfold maxLen; omega) (bd_u64 HBS.out)
      have rZ : Rd W (some ⟨gz, 0, none⟩) (k + 1) (k + 1) Z := hbzW.whole (k + 1) hlz.symm (by unfold maxLen; omega) (bd_u64 HBZ.out)
      clear hbA hbs hbz hbel hcx hcy
      go_quiet ((first | (go_at_call 84; exact Calls.quiet_of (cValueQ _ _ _ _ _ _ (rS.drewN _) (by omega) (by omega))) | (go_at_call 59; exact Calls.quiet_of_same (fSub _ _ _ (by omega) (by omega) (by omega) (by omega)))))
      go_wp2_with fail
      refine (cValueQ _ _ _ _ _ _ (rZ.drewN _) (by omega) (by omega)).mono ?_
      rintro e w3 ⟨rfl, q3, rfl⟩
      go_wp2_with fail
      refine (fInv1 _ _ (by omega) (by omega) HE.out).mono ?_
      rintro e w3 ⟨rfl, rfl⟩
      obtain ⟨t, HT⟩ : ∃ t, Hid (t = nm (nm (y - nm (ev S x)) * iv (nm (ev Z x)))) := ⟨_, rfl⟩
      have hnt : 0 ≤ t ∧ t ≤ 2147483646 := by rw [HT.out]; exact nm_bd _
      have HI2 : Hid (NwI l n (k + 1) (addAt S 0 Z t (k + 1)) (cvl Z [nm (-x), 1])) := nw_step HI.out hlt HO.out HX.out HY.out HT.out
      go_wp2_with (go_at_call 49; refine (fMul _ _ _ (by omega) (by omega) (by omega) (by omega)).mono ?_; rintro e w3 ⟨he, rfl⟩; rw [← HT.out] at he; subst he)
      refine (cAddTimes _ _ _ _ _ _ _ _ _ _ _ (by exact hbsW) (bd_u64 HBS.out) (rZ.drewN _) (fun x hx => by obtain rfl := Option.some.inj hx; exact hne) (by omega) (by omega) (by omega) (by omega) (by omega)).mono ?_
      rintro e w4 ⟨rfl, hb4, hg4⟩
      have hz4 : Blk w4 gz Z := Blk.grown (by exact hbzW) hg4 (by simpa using hne)
      have hbel4 : Below w.heap.size w w4 := below_grown (drewN_below hbelW _) hg4 hs1
      have hbB : Below w4.heap.size w4 (w4.alloc (.cells #[.int .u64 (nm (-x)), .int .u64 1] 34)) := (Below.refl _ _).alloc (Nat.le_refl _) _
      have hp4 := Blk.lit2 w4 (nm (-x)) 1
      clear hbelW hbsW hbzW rS rZ hg4 hcA0 hcA1
      go_wp2_with (go_at_call 59; refine (fSub _ _ _ (by omega) (by omega) (by omega) (by omega)).mono ?_; rintro e w3 ⟨rfl, hw⟩; have hw := hw.symm; subst hw)
      generalize hW5 : w4.alloc (.cells #[.int .u64 (nm (-x)), .int .u64 1] 34) = W5 at *
      have hs5 : w4.heap.size < W5.heap.size := hp4.lt
      clear hW5
      have hbel5 : Below w.heap.size w W5 := hbel4.trans (hbB.mono hbel4.size)
      have hz5 := hz4.below hbB hz4.lt
      have hb5 := hb4.below hbB hb4.lt
      have hl5 := hb5.lt
      have rZ5 : Rd W5 (some ⟨gz, 0, none⟩) (k + 1) (k + 1) Z := hz5.whole (k + 1) hlz.symm (by unfold maxLen; omega) (bd_u64 HBZ.out)
      have rP5 : Rd W5 (some ⟨w4.heap.size, 0, none⟩) 2 2 [nm (-x), 1] := hp4.whole 2 rfl (by unfold maxLen; omega) (by
        intro u hu
        simp only [List.mem_cons, List.not_mem_nil, or_false] at hu
        rcases hu with rfl | rfl <;> omega)
      refine (cProduct _ _ _ _ _ _ _ _ _ rZ5 rP5 (by omega) (by omega) (by omega) (by omega)).mono ?_
      rintro e w6 ⟨rfl, hb6, hbel6⟩
      have hs6 := hb5.below hbel6 hb5.lt
      have hbel7 := hbel5.trans (hbel6.mono hbel5.size)
      clear hbel6 hbel5 hz5 hb5 rZ5 rP5 hp4 hz4 hb4 hbB hbel4
      go_wp2
      go_roundw
      case rel => exact ⟨k + 1, _, _, _, by omega, by go_num, rfl, HI2, hs6, hb6, by omega, hbel7⟩
      case measure => simp [intOf]; omega
    · have hkn : k = n := by omega
      subst hkn
      have rS : Rd wr (some ⟨g1, 0, none⟩) k k S := hbs.whole k hls.symm (by unfold maxLen; omega) (bd_u64 HBS.out)
      go_wp2_with (go_at_call 88; refine (cTrim _ _ _ _ _ rS).mono ?_; rintro e w' ⟨rfl, hw⟩; have hw := hw.symm; subst hw)
      go_ret2
      refine ⟨S, g1, rfl, hls, HBS.out, HI.out.s, ?_, hbel⟩
      have ht := tl_le S k
      have := hbs.rd 0 (tl S k) k ht (by unfold maxLen; omega) (by omega) (bd_u64 HBS.out)
      rw [List.drop_zero] at this
      have e : trm S = S.take (tl S k) := by unfold trm; rw [hls]
      rw [e]
      exact this
end Go.Proofs.YtgmelcdgnjcojagDoor

namespace Go.Proofs.YtgmelcdgnjcojagDoor
open Go.RowKit Crm

/-- The first k numbers of the product. -/
def cvk (ps qs : List Int) (k : Nat) : List Int := (List.range k).map fun q => nm (pc ps qs q ps.length)
theorem cvk_step (ps qs : List Int) (k : Nat) {v : Int} (e : v = nm (pc ps qs k ps.length)) : cvk ps qs k ++ [v] = cvk ps qs (k + 1) := by
  unfold cvk
  rw [List.range_succ, List.map_append, e]
  rfl
theorem cvk_bd (ps qs : List Int) (k : Nat) : ∀ x ∈ cvk ps qs k, 0 ≤ x ∧ x ≤ 18446744073709551615 := by
  intro x hx
  obtain ⟨k, _, rfl⟩ := List.mem_map.1 hx
  have := nm_bd (pc ps qs k ps.length)
  omega
/-- Behind the k-th number nothing is added. -/
theorem pc_more (ps qs : List Int) (k : Nat) : ∀ d, pc ps qs k (k + 1 + d) = pc ps qs k (k + 1)
  | 0 => rfl
  | d + 1 => by
    show pc ps qs k (k + 1 + d) + tm ps qs k (k + 1 + d) = _
    rw [pc_more ps qs k d, tm, if_neg (by omega), Int.add_zero]
theorem pc_end (ps qs : List Int) (k i : Nat) (h : i = k + 1 ∨ i = ps.length) (hi : i ≤ ps.length) (hk : i ≤ k + 1) : pc ps qs k i = pc ps qs k ps.length := by
  rcases h with rfl | rfl
  · have := pc_more ps qs k (ps.length - (k + 1))
    rw [show k + 1 + (ps.length - (k + 1)) = ps.length by omega] at this
    exact this.symm
  · rfl
theorem pc_hit {ps qs : List Int} {k i : Nat} {x y s : Int} (hk : i ≤ k) (hx : ps.getD i 0 = x) (hy : qs.getD (k - i) 0 = y) (hs : s = nm (pc ps qs k i)) : nm (s + nm (x * y)) = nm (pc ps qs k (i + 1)) := by
  rw [pc, tm, if_pos hk, hx, hy, hs, nm_addl, nm_addr]
theorem pc_miss {ps qs : List Int} {k i : Nat} (hk : qs.length ≤ k - i) : pc ps qs k (i + 1) = pc ps qs k i := by
  rw [pc, tm]
  have : qs.getD (k - i) 0 = 0 := by rw [List.getD_eq_getElem?_getD, List.getElem?_eq_none hk]; rfl
  split
  · rw [this, Int.mul_zero, Int.add_zero]
  · rw [Int.add_zero]

end Go.Proofs.YtgmelcdgnjcojagDoor
