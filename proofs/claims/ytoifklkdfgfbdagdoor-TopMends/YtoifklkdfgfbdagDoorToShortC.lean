/- The parties' draw and see. · shamir.Deal: what it tells is the caller's own. · croftkeep.short; short lists that a law writes out. -/
import Derived.Test.YtoifklkdfgfbdagDoorToEnR
import Derived.Deep.RegionLaw
import Derived.Test.YtoifklkdfgfbdagDoorToDealC
import Derived.Test.YtoifklkdfgfbdagDoorProg
import Derived.Test.YtoifklkdfgfbdagDoorToPolyM
namespace Go.Proofs.YtoifklkdfgfbdagDoor
open Go.RowKit Crm

set_option maxRecDepth 100000 in
set_option maxHeartbeats 2000000 in
theorem eDraw (gp n t : Nat) (vi vW vS : Value) (ad : Option Addr) (d cd k : Nat) (w : World) (h : PBox w gp n t vi (.slice ad d cd) vW vS) (hz : ad = none → cd = 0) (hk : k ≤ d) (hc : d ≤ cd) :
    Calls Tryd.prog 80 #[.pointer (some ⟨gp, 0, none⟩), .int .i64 (k : Int)] w fun e w' => e = .returned (.slice ad k cd) ∧ w' = w.setCell ⟨gp, 3, none⟩ (.slice (subA ad cd k) (d - k) (cd - k)) := by
  obtain ⟨_, _, _, d3, _, _⟩ := h.cells
  have hf := h.frozen 3
  have hlt := h.lt
  obtain ⟨X, HX⟩ : ∃ X, Hid (subA ad cd k = X) := ⟨_, rfl⟩
  have e1 : ∀ W, (Instr.sliceAt 22 (.slice ad d cd) none (some (.int .i64 (k : Int))) none).run Tryd.prog W = .ok (.slice ad k cd) W := fun W => run_subh Tryd.underlying22 infoS1r ad d cd k hz (by omega) W
  have e2 : ∀ W, (Instr.sliceAt 22 (.slice ad d cd) (some (.int .i64 (k : Int))) none none).run Tryd.prog W = .ok (.slice X (d - k) (cd - k)) W := fun W => by rw [← HX.out]; exact run_subl Tryd.underlying22 infoS1r ad d cd k rfl hk W
  rw [HX.out]
  clear h
  go_enter Tryd.func80, Tryd.ntmps80
  go_wp2
  go_ret
  exact ⟨rfl, rfl⟩

set_option maxRecDepth 100000 in
set_option maxHeartbeats 4000000 in
theorem eSee {w wr : World} {gp gs n t j m c lo hi : Nat} {vi vd vW : Value} {Ls LW : List Value} {S X : Nat → List Int} {W : List (List Int)} {a : Option Addr} (h : PSt w wr gp gs n t vi vd Ls (sgx S X n j) vW LW W lo hi) (hj : j < n) (hr : Rd wr a m c (X j)) (hm : 0 < m) (hm9 : m ≤ 9) (hl : (S j).length ≤ 5000) :
    Calls Tryd.prog 69 #[.pointer (some ⟨gp, 0, none⟩), .int .i64 (j : Int), .slice a m c] wr fun e w' => e = .returned (.tuple #[]) ∧ Seen w wr gs j (Ls.getD j (.slice none 0 0)) (S j) (X j) w' := by
  have hgl := sgx_len S X n j
  obtain ⟨dg, fg, lg⟩ := h.sen.seen.cell hgl hj
  have hrow := h.sen.seen.row j (by rw [hgl]; exact hj)
  rw [sgx_getD _ _ hj] at hrow
  obtain ⟨u, HU⟩ : ∃ u, Hid (Ls.getD j (.slice none 0 0) = u) := ⟨_, rfl⟩
  rw [HU.out] at dg hrow ⊢
  obtain ⟨l, Hl⟩ : ∃ l, Hid ((S j).length = l) := ⟨_, rfl⟩
  rw [Hl.out] at hrow hl
  have hrowD : wr.drew.ownsRow w.heap.size 34 1 u l ((S j).map (Value.int .u64)) := hrow
  obtain ⟨ua, uc, rfl, huc⟩ := own_slice hrow
  have hsw := h.sen.bel.size
  obtain ⟨_, _, _, _, _, d5⟩ := h.box.cells
  have hlp := h.box.lt
  have hxl := hr.len
  obtain ⟨Y, HY⟩ : ∃ Y, Hid (X j = Y) := ⟨_, rfl⟩
  obtain ⟨Z, HZ⟩ : ∃ Z, Hid (S j = Z) := ⟨_, rfl⟩
  rw [HY.out] at hr hxl ⊢
  rw [HZ.out] at hrow hrowD ⊢
  obtain ⟨b3, o3, rfl, _, _⟩ := hr.at (k := 0) hm
  have HST : Hid (∀ w7, wr.drew.grownBy w7 (Value.slice ua l uc).ownBlock → (∃ x, w7.cell? ⟨gs, j, none⟩ = some x) ∧ w7.frozen? ⟨gs, j, none⟩ = false ∧ gp < w7.heap.size ∧ w7.cell? ⟨gp, 5, none⟩ = some (.slice (some ⟨gs, 0, none⟩) n n)) := fun w7 hg => by
    have hsd : wr.drew.ownsRow w.heap.size 22 1 (.slice (some ⟨gs, 0, none⟩) n n) (sgx S X n j).length Ls := h.sen.seen.own
    have ho7 := hsd.kept hg (own_apart hrowD hsd (by decide))
    rw [hgl] at ho7
    obtain ⟨g', x, e1, _, _, _, e5⟩ := own_at ho7 hj
    simp only [Option.some.injEq, Addr.mk.injEq, and_true] at e1
    subst e1
    have hb7 := h.box.drew.grown hg (h.box.drew.off' hrowD eUP)
    exact ⟨⟨x, e5⟩, own_frozen ho7 j, hb7.lt, hb7.cells.2.2.2.2.2⟩
  have HUP : Hid (∀ g7 cap7 w7, w7.ownsRow w.heap.size 34 1 (.slice (some ⟨g7, 0, none⟩) (l + m) cap7) (l + m) ((Z ++ Y).map (Value.int .u64)) → wr.drew.grownBy w7 (Value.slice ua l uc).ownBlock → ((Value.slice (some ⟨g7, 0, none⟩) (l + m) cap7).ownBlock = (Value.slice ua l uc).ownBlock ∨ ∃ k, (Value.slice (some ⟨g7, 0, none⟩) (l + m) cap7).ownBlock = some k ∧ wr.drew.heap.size ≤ k) →
      Seen w wr gs j (.slice ua l uc) Z Y (w7.setCell ⟨gs, j, none⟩ (.slice (some ⟨g7, 0, none⟩) (l + m) cap7))) := fun g7 cap7 w7 ho hg hat => by
    have hlen : (Z ++ Y).length = l + m := by rw [List.length_append, hxl, ← HZ.out, Hl.out]
    exact ⟨w7, _, rfl, by rw [hlen]; exact ho, ⟨hg.os, hg.tape, hg.output, hg.size, hg.block⟩, hat⟩
  have hj0 : (0 : Int) ≤ (j : Int) := by omega
  have hjni : (j : Int) < (n : Int) := by omega
  clear h hrow
  go_enter Tryd.func69, Tryd.ntmps69
  go_region_law (refine step_appM Tryd.underlying22 info34 wr.drew rfl _ _ rfl w.heap.size _ _ _ rfl hrowD b3 o3 m c Y hr.drew rfl hm (by omega) (by exact hsw) ?_; intro g7 cap7 w7 ho7 hgr7 hat7; obtain ⟨⟨xx, dd⟩, ff, lp7, dp7⟩ := HST.out w7 hgr7; have hl7 := World.block_lt_of_cell? w7 _ dd; have HE : Hid (Seen _ _ _ _ _ _ _ _) := HUP.out g7 cap7 w7 ho7 hgr7 hat7; clear ho7 hgr7 hat7)
  all_goals
    clear HST HUP hrowD
    go_wp2
    exact bodyPost_end (v := .tuple #[]) (by simp [results, Tryd.results69, go_sem]) rfl ⟨rfl, HE.out⟩
end Go.Proofs.YtoifklkdfgfbdagDoor

namespace Go.Proofs.YtoifklkdfgfbdagDoor
open Go.RowKit Crm

set_option maxRecDepth 100000 in
set_option maxHeartbeats 1000000 in
theorem cDealB (s : Int) (a : Option Addr) (m c : Nat) (xs : List Int) (n : Nat) (w : World) (h : Rd w a m c xs) (hs0 : 0 ≤ s) (hs1 : s ≤ 18446744073709551615) (hm : m ≤ 4) (hn : m < n) (hn9 : n ≤ 9) :
    Calls Tryd.prog 11 #[.int .u64 s, .slice a m c, .int .i64 n] w fun e w' => ∃ v, e = .returned (.tuple #[v, .int .i64 0]) ∧ w'.ownsRow w.heap.size 34 1 v n ((dl (s :: xs) n).map (Value.int .u64)) ∧ Below w.heap.size w w' := by
  obtain ⟨i0, hi, hz0, hz1, hz2⟩ := info_parts info34
  have hlen := h.len
  go_enter Tryd.func11, Tryd.ntmps11
  go_wp2_with (first | (at_builtin; refine wpList_appR Tryd.underlying22 info34 _ rfl _ _ rfl s hs0 hs1 a m c xs h rfl rfl (by omega) ?_; intro a1 c1 w1 hr1 hb1) | (at_make; refine wpList_make_full _ rfl _ _ 22 rfl w1.heap.size 34 i0 (.int .u64 0) 1 Tryd.underlying22 hi hz0 hz1 .i64 .i64 _ _ n rfl rfl (by omega) (by omega) (by rw [hz2]; omega) (by unfold maxLen; omega) (Nat.le_refl _) ?_; intro w2 hown hgrow))
  have hs1 := hb1.size
  have hB2 : Blk w2 w1.heap.size (fil (dlf (s :: xs)) n 0) := by rw [← fil_zero]; exact Blk.made hown
  have hb2 : Below w1.heap.size w1 w2 := (Below.refl _ _).grown hgrow (Nat.le_refl _) (by simp)
  have hb12 : Below w.heap.size w w2 := hb1.trans (hb2.mono hs1)
  clear hown hgrow
  go_loopw [32] (fun i wr => ∃ k : Nat, k ≤ n ∧ i = .int .i64 k ∧ Blk wr w1.heap.size (fil (dlf (s :: xs)) n k) ∧ Below w1.heap.size w1 wr ∧ Below w.heap.size w wr) (fun i _ => n - (intOf i).toNat)
  case atStart => exact ⟨0, Nat.zero_le _, rfl, hB2, hb2, hb12⟩
  case round =>
    clear hB2 hb2 hb12
    obtain ⟨k, hk, rfl, hblk, hbe1, hbel⟩ := hrel
    by_cases hlt : k < n
    · have hr := hr1.below hbe1
      have HF : Hid (nm (ev (s :: xs) ((k : Int) + 1)) = dlf (s :: xs) k) := rfl
      go_wp2_with fail
      refine (cEvalOK _ _ _ _ _ _ hr (by omega) (by omega) (by omega)).mono ?_
      rintro e w3 ⟨rfl, hb3⟩
      rw [HF.out]
      have hblk3 := hblk.below hb3 hblk.lt
      have hcell := hblk3.cell (i := k) (by rw [fil_len]; exact hlt)
      have hfz := hblk3.frozen k
      have hlt3 := hblk3.lt
      have hblk4 := hblk3.set k (dlf (s :: xs) k)
      rw [fil_set rfl] at hblk4
      have hbe3 := hbe1.trans (hb3.mono hbe1.size)
      have hbel3 := hbel.trans (hb3.mono hbel.size)
      have Hb4 : Hid (Below w1.heap.size w1 (w3.setCell ⟨w1.heap.size, k, none⟩ (.int .u64 (dlf (s :: xs) k)))) := hbe3.setCell (Nat.le_refl _) _
      have Hb5 : Hid (Below w.heap.size w (w3.setCell ⟨w1.heap.size, k, none⟩ (.int .u64 (dlf (s :: xs) k)))) := hbel3.setCell hs1 _
      clear hbe1 hbel hb3 hblk hblk3 hbe3 hbel3 hr
      go_wp2
      go_roundw
      case rel => exact ⟨k + 1, by omega, by go_num, hblk4, Hb4.out, Hb5.out⟩
      case measure => simp [intOf]; omega
    · have hkn : k = n := by omega
      subst hkn
      have hr : wr.ownsRow w.heap.size 34 1 (.slice (some ⟨w1.heap.size, 0, none⟩) k k) k ((dl (s :: xs) k).map (Value.int .u64)) := by
        rw [fil_full] at hblk
        exact ⟨by rw [List.length_map, dl_len, Nat.mul_one], .inr ⟨_, k, _, rfl, hs1, hblk, Nat.le_refl _, by unfold maxLen; omega, by simp, by rw [List.toList_toArray, Nat.mul_one, List.take_of_length_le (by simp)]; rfl⟩⟩
      go_wp2
      go_ret2
      exact ⟨_, rfl, hr, hbel⟩
end Go.Proofs.YtoifklkdfgfbdagDoor

namespace Go.Proofs.YtoifklkdfgfbdagDoor
open Go.RowKit

theorem Rd.take {w : World} {a : Option Addr} {n c : Nat} {xs : List Int} (h : Rd w a n c xs) {k : Nat} (hk : k ≤ n) : Rd w a k c (xs.take k) := by
  refine ⟨by have := h.len; simp; omega, by have := h.cap; omega, h.max, fun x hx => h.bd x (List.mem_of_mem_take hx), h.nil, fun x hx i hi => ?_⟩
  rw [h.cell x hx i (by omega)]
  congr 2
  simp [hi]

theorem Blk.of2 (w : World) (x y : Int) : Blk (w.alloc (.cells #[.int .u64 x, .int .u64 y] 34)) w.heap.size [x, y] := heap_alloc_new w _
theorem Blk.of3 (w : World) (x y z : Int) : Blk (w.alloc (.cells #[.int .u64 x, .int .u64 y, .int .u64 z] 34)) w.heap.size [x, y, z] := heap_alloc_new w _
theorem rd_of2 (w : World) {x y : Int} (hx : 0 ≤ x ∧ x ≤ 18446744073709551615) (hy : 0 ≤ y ∧ y ≤ 18446744073709551615) : Rd (w.alloc (.cells #[.int .u64 x, .int .u64 y] 34)) (some ⟨w.heap.size, 0, none⟩) 2 2 [x, y] :=
  (Blk.of2 w x y).whole 2 rfl (by unfold maxLen; omega) (by
    intro u hu
    simp only [List.mem_cons, List.not_mem_nil, or_false] at hu
    rcases hu with rfl | rfl <;> assumption)
theorem rd_of3 (w : World) {x y z : Int} (hx : 0 ≤ x ∧ x ≤ 18446744073709551615) (hy : 0 ≤ y ∧ y ≤ 18446744073709551615) (hz : 0 ≤ z ∧ z ≤ 18446744073709551615) : Rd (w.alloc (.cells #[.int .u64 x, .int .u64 y, .int .u64 z] 34)) (some ⟨w.heap.size, 0, none⟩) 3 3 [x, y, z] :=
  (Blk.of3 w x y z).whole 3 rfl (by unfold maxLen; omega) (by
    intro u hu
    simp only [List.mem_cons, List.not_mem_nil, or_false] at hu
    rcases hu with rfl | rfl | rfl <;> assumption)
theorem below_one (w : World) (ob : Obj) : Below w.heap.size w (w.alloc ob) := (Below.refl _ _).alloc (Nat.le_refl _) _
end Go.Proofs.YtoifklkdfgfbdagDoor
