/- The parties' reckon: a multiple. · The parties' reckon: an input. · The parties' reckon: a number. -/
import Derived.Test.YtgmelcdgnjcojagDoorToEnK
namespace Go.Proofs.YtgmelcdgnjcojagDoor
open Go.RowKit Crm

set_option maxRecDepth 100000 in
set_option maxHeartbeats 8000000 in
theorem eRkScale {G : List Gt} {n t : Nat} {ins ds : List Int} {w wr : World} {gp gs i q d lo hh cW pa : Nat} {vi vd : Value} {aW : Option Addr} {Ls LW : List Value} {y z : Int} (h : PSt w wr gp gs n t vi vd Ls (sgl G n t ins ds i) (.slice aW i cW) LW (ewr G n t ins ds i) lo hh)
    (hvi : Lft w ins q (ci G i) vi) (hvd : Lft w ds d (dwn G n t i) vd) (HGi : Hid (gt G i = ⟨6, pa, y, z⟩)) (hpa : pa < i) (hz0 : 0 ≤ z) (hz1 : z ≤ 18446744073709551615) (hn : 2 * t + 1 ≤ n) (hn9 : n ≤ 9) :
    Calls Tryd.prog 65 #[.pointer (some ⟨gp, 0, none⟩), .agg #[.int .i64 6, .int .i64 (pa : Int), .int .i64 y, .int .u64 z]] wr fun e w' => ∃ u, e = .returned u ∧ Pgt G n t ins ds q d w gp gs i (.slice aW i cW) LW u w' := by
  have hbA : Below wr.heap.size wr (wr.alloc (.cells #[.int .i64 6, .int .i64 (pa : Int), .int .i64 y, .int .u64 z] 61)) := (Below.refl _ _).alloc (Nat.le_refl _) _
  obtain ⟨q1, q2, q3, q4⟩ := gate_box wr 6 pa y z 61
  have hltA : wr.heap.size < (wr.alloc (.cells #[.int .i64 6, .int .i64 (pa : Int), .int .i64 y, .int .u64 z] 61)).heap.size := by simp
  have hPA := h.below hbA
  obtain ⟨gW, a1, c1, rfl, hgW, e1, _, r1⟩ := hPA.wire hpa
  obtain ⟨_, _, _, _, f4, _⟩ := hPA.box.cells
  have hlp := hPA.box.lt
  have HE : Hid (ew G n t ins ds i = mxl (ew G n t ins ds pa) (ew G n t ins ds pa) z 0 0 n) := by unfold Hid; rw [ew_scale (by rw [HGi.out]) (by rw [HGi.out]) hpa, HGi.out]
  have HW2 : Hid (Wr1 n) := ⟨by omega, hn9⟩
  have hpa0 : (0 : Int) ≤ (pa : Int) := by omega
  have hpai : (pa : Int) < (i : Int) := by omega
  go_enter Tryd.func65, Tryd.ntmps65
  go_upto_region 13 with fail
  generalize wr.alloc (.cells #[.int .i64 6, .int .i64 (pa : Int), .int .i64 y, .int .u64 z] 61) = W at *
  have HF : Hid (∀ u w', w'.ownsRow W.drew.heap.size 34 1 u n ((mxl (ew G n t ins ds pa) (ew G n t ins ds pa) z 0 0 n).map (Value.int .u64)) → Below W.drew.heap.size W.drew w' → Pgt G n t ins ds q d w gp gs i (.slice (some ⟨gW, 0, none⟩) i cW) LW u w') := fun u w' ho hb => by
    rw [← HE.out] at ho
    exact hPA.drew.quiet hvi hvd (by omega) hb (by rw [HGi.out]; simp) (by rw [HGi.out]; simp) ho
  clear h hPA
  have HALL : Hid (∀ w', Below W.drew.heap.size W.drew w' → w'.cell? ⟨gp, 4, none⟩ = some (.slice (some ⟨gW, 0, none⟩) i cW) ∧ w'.cell? ⟨wr.heap.size, 1, none⟩ = some (.int .i64 (pa : Int)) ∧ w'.cell? ⟨wr.heap.size, 3, none⟩ = some (.int .u64 z) ∧ w'.cell? ⟨gW, pa, none⟩ = some (.slice a1 n c1) ∧ gp < w'.heap.size ∧ wr.heap.size < w'.heap.size ∧ gW < w'.heap.size) := fun w' hb => ⟨by rw [hb.cell hlp]; exact f4, by rw [hb.cell hltA]; exact q2, by rw [hb.cell hltA]; exact q4, by rw [hb.cell hgW]; exact e1, Nat.lt_of_lt_of_le hlp hb.size, Nat.lt_of_lt_of_le hltA hb.size, Nat.lt_of_lt_of_le hgW hb.size⟩
  go_region_held3 (fun w' => w'.cell? ⟨gp, 4, none⟩ = some (.slice (some ⟨gW, 0, none⟩) i cW) ∧ w'.cell? ⟨wr.heap.size, 1, none⟩ = some (.int .i64 (pa : Int)) ∧ w'.cell? ⟨wr.heap.size, 3, none⟩ = some (.int .u64 z) ∧ w'.cell? ⟨gW, pa, none⟩ = some (.slice a1 n c1)) (go_keep) (first | (go_at_call 83; refine (cGScale a1 n c1 _ z _ r1.drew hz0 hz1).mono ?_; rintro en w3 ⟨⟨hno, _⟩ | ⟨_, u, rfl, ho⟩, hb3⟩; exact absurd HW2.out hno; have HP := HF.out u w3 ho hb3; obtain ⟨j4, j1, j2, j5, j7, j8, j9⟩ := HALL.out w3 hb3; clear ho hb3))
  all_goals
    go_wp2
    go_ret
    exact ⟨u, rfl, HP⟩
end Go.Proofs.YtgmelcdgnjcojagDoor

namespace Go.Proofs.YtgmelcdgnjcojagDoor
open Go.RowKit Crm

set_option maxRecDepth 100000 in
set_option maxHeartbeats 8000000 in
theorem eRkInput {G : List Gt} {n t : Nat} {ins ds : List Int} {w wr : World} {gp gs i q d N lo hh : Nat} {vi vd vW : Value} {Ls LW : List Value} {x y z : Int} (h : PSt w wr gp gs n t vi vd Ls (sgl G n t ins ds i) vW LW (ewr G n t ins ds i) lo hh)
    (hvi : Lft w ins q (ci G i) vi) (hvd : Lft w ds d (dwn G n t i) vd) (HGi : Hid (gt G i = ⟨1, x, y, z⟩)) (hi : i < N) (hN : N ≤ 30) (hq : q = ci G N) (hd : d = dwn G n t N) (hn : 2 * t + 1 ≤ n) (hn9 : n ≤ 9) :
    Calls Tryd.prog 65 #[.pointer (some ⟨gp, 0, none⟩), .agg #[.int .i64 1, .int .i64 x, .int .i64 y, .int .u64 z]] wr fun e w' => ∃ u, e = .returned u ∧ Pgt G n t ins ds q d w gp gs i vW LW u w' := by
  have hbA : Below wr.heap.size wr (wr.alloc (.cells #[.int .i64 1, .int .i64 x, .int .i64 y, .int .u64 z] 61)) := (Below.refl _ _).alloc (Nat.le_refl _) _
  obtain ⟨q1, q2, q3, q4⟩ := gate_box wr 1 x y z 61
  have hltA : wr.heap.size < (wr.alloc (.cells #[.int .i64 1, .int .i64 x, .int .i64 y, .int .u64 z] 61)).heap.size := by simp
  have hPA := h.below hbA
  clear h q2 q3 q4
  go_enter Tryd.func65, Tryd.ntmps65
  go_upto_region 3 with fail
  generalize wr.alloc (.cells #[.int .i64 1, .int .i64 x, .int .i64 y, .int .u64 z] 61) = W at *
  go_wp2_with fail
  refine (eDeal hPA hvi hvd (by rw [HGi.out]) hi hN hq hd hn hn9).mono ?_
  rintro en w3 ⟨u, rfl, HP⟩
  clear hPA
  go_wp2
  go_ret
  exact ⟨u, rfl, HP⟩
end Go.Proofs.YtgmelcdgnjcojagDoor

namespace Go.Proofs.YtgmelcdgnjcojagDoor
open Go.RowKit Crm

set_option maxRecDepth 100000 in
set_option maxHeartbeats 8000000 in
theorem eRkConst {G : List Gt} {n t : Nat} {ins ds : List Int} {w wr : World} {gp gs i q d lo hh : Nat} {vi vd vW : Value} {Ls LW : List Value} {x y z : Int} (h : PSt w wr gp gs n t vi vd Ls (sgl G n t ins ds i) vW LW (ewr G n t ins ds i) lo hh)
    (hvi : Lft w ins q (ci G i) vi) (hvd : Lft w ds d (dwn G n t i) vd) (HGi : Hid (gt G i = ⟨2, x, y, z⟩)) (hz0 : 0 ≤ z) (hz1 : z ≤ 18446744073709551615) (hn : 2 * t + 1 ≤ n) (hn9 : n ≤ 9) :
    Calls Tryd.prog 65 #[.pointer (some ⟨gp, 0, none⟩), .agg #[.int .i64 2, .int .i64 x, .int .i64 y, .int .u64 z]] wr fun e w' => ∃ u, e = .returned u ∧ Pgt G n t ins ds q d w gp gs i vW LW u w' := by
  have hbA : Below wr.heap.size wr (wr.alloc (.cells #[.int .i64 2, .int .i64 x, .int .i64 y, .int .u64 z] 61)) := (Below.refl _ _).alloc (Nat.le_refl _) _
  obtain ⟨q1, q2, q3, q4⟩ := gate_box wr 2 x y z 61
  have hltA : wr.heap.size < (wr.alloc (.cells #[.int .i64 2, .int .i64 x, .int .i64 y, .int .u64 z] 61)).heap.size := by simp
  have hPA := h.below hbA
  obtain ⟨f0, _, _, _, _, _⟩ := hPA.box.cells
  have hlp := hPA.box.lt
  have HE : Hid (ew G n t ins ds i = List.replicate n (nm z)) := by unfold Hid; rw [ew_const (by rw [HGi.out]), HGi.out]
  have hnb := nm_bd z
  go_enter Tryd.func65, Tryd.ntmps65
  go_upto_region 5 with fail
  generalize wr.alloc (.cells #[.int .i64 2, .int .i64 x, .int .i64 y, .int .u64 z] 61) = W at *
  have hb1 : Below W.heap.size W (W.alloc (.cells #[.int .u64 (nm z)] 34)) := (Below.refl _ _).alloc (Nat.le_refl _) _
  have hPB := (hPA.below hb1).drew
  have hl1 : W.heap.size ≤ (W.alloc (.cells #[.int .u64 (nm z)] 34)).drew.heap.size := hb1.size
  have HF : Hid (∀ u w', w'.ownsRow (W.alloc (.cells #[.int .u64 (nm z)] 34)).drew.heap.size 34 1 u n ((List.replicate n (nm z)).map (Value.int .u64)) → Below (W.alloc (.cells #[.int .u64 (nm z)] 34)).drew.heap.size (W.alloc (.cells #[.int .u64 (nm z)] 34)).drew w' → Pgt G n t ins ds q d w gp gs i vW LW u w' ∧ w'.cell? ⟨gp, 0, none⟩ = some (.int .i64 (n : Int)) ∧ w'.cell? ⟨wr.heap.size, 3, none⟩ = some (.int .u64 z)) := fun u w' ho hb => by
    rw [← HE.out] at ho
    refine ⟨hPB.quiet hvi hvd (by omega) hb (by rw [HGi.out]; simp) (by rw [HGi.out]; simp) ho, ?_, ?_⟩
    · rw [hb.cell (Nat.lt_of_lt_of_le hlp hl1)]
      exact hPB.box.cells.1
    · rw [hb.cell (Nat.lt_of_lt_of_le hltA hl1)]
      show (W.alloc _).cell? _ = _
      rw [hb1.cell hltA]
      exact q4
  have HR : Hid (Rd (W.alloc (.cells #[.int .u64 (nm z)] 34)).drew (some ⟨W.heap.size, 0, none⟩) 1 1 [nm z]) := (rd_lit1 W ⟨hnb.1, by have := hnb.2; omega⟩).drew
  have hn1 : 1 ≤ n := by omega
  clear h hPA hPB
  go_region_held3 (fun w' => w'.cell? ⟨gp, 0, none⟩ = some (.int .i64 (n : Int)) ∧ w'.cell? ⟨wr.heap.size, 3, none⟩ = some (.int .u64 z)) (go_keep) (first | (go_at_call 37; refine (fNorm z _ hz0 hz1).mono ?_; rintro en w3 ⟨rfl, hw⟩; have hw := hw.symm; subst hw) | (go_at_call 92; refine (zRepeat (some ⟨W.heap.size, 0, none⟩) 1 (nm z) n _ HR.out hn1 hn9).mono ?_; rintro en w5 ⟨u, rfl, ho, hb5⟩; obtain ⟨HP, j0, j3⟩ := HF.out u w5 ho hb5; clear ho hb5))
  all_goals
    go_wp2
    go_ret
    exact ⟨u, rfl, HP⟩
end Go.Proofs.YtgmelcdgnjcojagDoor
