/- The parties' reckon: a sum. · The parties' reckon: a difference. · The parties' reckon: a product. -/
import Derived.Test.YtgmelcdgnjcojagDoorToEnK
namespace Go.Proofs.YtgmelcdgnjcojagDoor
open Go.RowKit Crm

set_option maxRecDepth 100000 in
set_option maxHeartbeats 8000000 in
theorem eRkAdd {G : List Gt} {n t : Nat} {ins ds : List Int} {w wr : World} {gp gs i q d lo hh cW pa pb : Nat} {vi vd : Value} {aW : Option Addr} {Ls LW : List Value} {z : Int} (h : PSt w wr gp gs n t vi vd Ls (sgl G n t ins ds i) (.slice aW i cW) LW (ewr G n t ins ds i) lo hh)
    (hvi : Lft w ins q (ci G i) vi) (hvd : Lft w ds d (dwn G n t i) vd) (HGi : Hid (gt G i = ⟨3, pa, pb, z⟩)) (hpa : pa < i) (hpb : pb < i) (hn : 2 * t + 1 ≤ n) (hn9 : n ≤ 9) :
    Calls Tryd.prog 65 #[.pointer (some ⟨gp, 0, none⟩), .agg #[.int .i64 3, .int .i64 (pa : Int), .int .i64 (pb : Int), .int .u64 z]] wr fun e w' => ∃ u, e = .returned u ∧ Pgt G n t ins ds q d w gp gs i (.slice aW i cW) LW u w' := by
  have hbA : Below wr.heap.size wr (wr.alloc (.cells #[.int .i64 3, .int .i64 (pa : Int), .int .i64 (pb : Int), .int .u64 z] 61)) := (Below.refl _ _).alloc (Nat.le_refl _) _
  obtain ⟨q1, q2, q3, q4⟩ := gate_box wr 3 pa pb z 61
  have hltA : wr.heap.size < (wr.alloc (.cells #[.int .i64 3, .int .i64 (pa : Int), .int .i64 (pb : Int), .int .u64 z] 61)).heap.size := by simp
  have hPA := h.below hbA
  obtain ⟨gW, a1, c1, rfl, hgW, e1, _, r1⟩ := hPA.wire hpa
  obtain ⟨gW', a2, c2, e', _, e2, _, r2⟩ := hPA.wire hpb
  simp only [Option.some.injEq, Addr.mk.injEq, and_true] at e'
  subst e'
  obtain ⟨_, _, _, _, f4, _⟩ := hPA.box.cells
  have hlp := hPA.box.lt
  have HE : Hid (ew G n t ins ds i = mxl (ew G n t ins ds pa) (ew G n t ins ds pb) 1 1 0 n) := ew_add (by rw [HGi.out]) (by rw [HGi.out]) hpa (by rw [HGi.out]) hpb
  have HW2 : Hid (Wr2 n n) := ⟨⟨by omega, hn9⟩, rfl⟩
  have hpa0 : (0 : Int) ≤ (pa : Int) := by omega
  have hpai : (pa : Int) < (i : Int) := by omega
  have hpb0 : (0 : Int) ≤ (pb : Int) := by omega
  have hpbi : (pb : Int) < (i : Int) := by omega
  go_enter Tryd.func65, Tryd.ntmps65
  go_upto_region 7 with fail
  generalize wr.alloc (.cells #[.int .i64 3, .int .i64 (pa : Int), .int .i64 (pb : Int), .int .u64 z] 61) = W at *
  have HF : Hid (∀ u w', w'.ownsRow W.drew.heap.size 34 1 u n ((mxl (ew G n t ins ds pa) (ew G n t ins ds pb) 1 1 0 n).map (Value.int .u64)) → Below W.drew.heap.size W.drew w' → Pgt G n t ins ds q d w gp gs i (.slice (some ⟨gW, 0, none⟩) i cW) LW u w') := fun u w' ho hb => by
    rw [← HE.out] at ho
    exact hPA.drew.quiet hvi hvd (by omega) hb (by rw [HGi.out]; simp) (by rw [HGi.out]; simp) ho
  clear h hPA
  have HALL : Hid (∀ w', Below W.drew.heap.size W.drew w' → w'.cell? ⟨gp, 4, none⟩ = some (.slice (some ⟨gW, 0, none⟩) i cW) ∧ w'.cell? ⟨wr.heap.size, 1, none⟩ = some (.int .i64 (pa : Int)) ∧ w'.cell? ⟨wr.heap.size, 2, none⟩ = some (.int .i64 (pb : Int)) ∧ w'.cell? ⟨gW, pa, none⟩ = some (.slice a1 n c1) ∧ w'.cell? ⟨gW, pb, none⟩ = some (.slice a2 n c2) ∧ gp < w'.heap.size ∧ wr.heap.size < w'.heap.size ∧ gW < w'.heap.size) := fun w' hb => ⟨by rw [hb.cell hlp]; exact f4, by rw [hb.cell hltA]; exact q2, by rw [hb.cell hltA]; exact q3, by rw [hb.cell hgW]; exact e1, by rw [hb.cell hgW]; exact e2, Nat.lt_of_lt_of_le hlp hb.size, Nat.lt_of_lt_of_le hltA hb.size, Nat.lt_of_lt_of_le hgW hb.size⟩
  go_region_held3 (fun w' => w'.cell? ⟨gp, 4, none⟩ = some (.slice (some ⟨gW, 0, none⟩) i cW) ∧ w'.cell? ⟨wr.heap.size, 1, none⟩ = some (.int .i64 (pa : Int)) ∧ w'.cell? ⟨wr.heap.size, 2, none⟩ = some (.int .i64 (pb : Int)) ∧ w'.cell? ⟨gW, pa, none⟩ = some (.slice a1 n c1) ∧ w'.cell? ⟨gW, pb, none⟩ = some (.slice a2 n c2)) (go_keep) (first | (go_at_call 17; refine (cGAdd a1 n c1 _ a2 n c2 _ _ r1.drew r2.drew).mono ?_; rintro en w3 ⟨⟨hno, _⟩ | ⟨_, u, rfl, ho⟩, hb3⟩; exact absurd HW2.out hno; have HP := HF.out u w3 ho hb3; obtain ⟨j4, j1, j2, j5, j6, j7, j8, j9⟩ := HALL.out w3 hb3; clear ho hb3))
  all_goals
    go_wp2
    go_ret
    exact ⟨u, rfl, HP⟩
end Go.Proofs.YtgmelcdgnjcojagDoor

namespace Go.Proofs.YtgmelcdgnjcojagDoor
open Go.RowKit Crm

set_option maxRecDepth 100000 in
set_option maxHeartbeats 8000000 in
theorem eRkSub {G : List Gt} {n t : Nat} {ins ds : List Int} {w wr : World} {gp gs i q d lo hh cW pa pb : Nat} {vi vd : Value} {aW : Option Addr} {Ls LW : List Value} {z : Int} (h : PSt w wr gp gs n t vi vd Ls (sgl G n t ins ds i) (.slice aW i cW) LW (ewr G n t ins ds i) lo hh)
    (hvi : Lft w ins q (ci G i) vi) (hvd : Lft w ds d (dwn G n t i) vd) (HGi : Hid (gt G i = ⟨4, pa, pb, z⟩)) (hpa : pa < i) (hpb : pb < i) (hn : 2 * t + 1 ≤ n) (hn9 : n ≤ 9) :
    Calls Tryd.prog 65 #[.pointer (some ⟨gp, 0, none⟩), .agg #[.int .i64 4, .int .i64 (pa : Int), .int .i64 (pb : Int), .int .u64 z]] wr fun e w' => ∃ u, e = .returned u ∧ Pgt G n t ins ds q d w gp gs i (.slice aW i cW) LW u w' := by
  have hbA : Below wr.heap.size wr (wr.alloc (.cells #[.int .i64 4, .int .i64 (pa : Int), .int .i64 (pb : Int), .int .u64 z] 61)) := (Below.refl _ _).alloc (Nat.le_refl _) _
  obtain ⟨q1, q2, q3, q4⟩ := gate_box wr 4 pa pb z 61
  have hltA : wr.heap.size < (wr.alloc (.cells #[.int .i64 4, .int .i64 (pa : Int), .int .i64 (pb : Int), .int .u64 z] 61)).heap.size := by simp
  have hPA := h.below hbA
  obtain ⟨gW, a1, c1, rfl, hgW, e1, _, r1⟩ := hPA.wire hpa
  obtain ⟨gW', a2, c2, e', _, e2, _, r2⟩ := hPA.wire hpb
  simp only [Option.some.injEq, Addr.mk.injEq, and_true] at e'
  subst e'
  obtain ⟨_, _, _, _, f4, _⟩ := hPA.box.cells
  have hlp := hPA.box.lt
  have HE : Hid (ew G n t ins ds i = mxl (ew G n t ins ds pa) (ew G n t ins ds pb) 1 2147483646 0 n) := ew_sub (by rw [HGi.out]) (by rw [HGi.out]) hpa (by rw [HGi.out]) hpb
  have HW2 : Hid (Wr2 n n) := ⟨⟨by omega, hn9⟩, rfl⟩
  have hpa0 : (0 : Int) ≤ (pa : Int) := by omega
  have hpai : (pa : Int) < (i : Int) := by omega
  have hpb0 : (0 : Int) ≤ (pb : Int) := by omega
  have hpbi : (pb : Int) < (i : Int) := by omega
  go_enter Tryd.func65, Tryd.ntmps65
  go_upto_region 9 with fail
  generalize wr.alloc (.cells #[.int .i64 4, .int .i64 (pa : Int), .int .i64 (pb : Int), .int .u64 z] 61) = W at *
  have HF : Hid (∀ u w', w'.ownsRow W.drew.heap.size 34 1 u n ((mxl (ew G n t ins ds pa) (ew G n t ins ds pb) 1 2147483646 0 n).map (Value.int .u64)) → Below W.drew.heap.size W.drew w' → Pgt G n t ins ds q d w gp gs i (.slice (some ⟨gW, 0, none⟩) i cW) LW u w') := fun u w' ho hb => by
    rw [← HE.out] at ho
    exact hPA.drew.quiet hvi hvd (by omega) hb (by rw [HGi.out]; simp) (by rw [HGi.out]; simp) ho
  clear h hPA
  have HALL : Hid (∀ w', Below W.drew.heap.size W.drew w' → w'.cell? ⟨gp, 4, none⟩ = some (.slice (some ⟨gW, 0, none⟩) i cW) ∧ w'.cell? ⟨wr.heap.size, 1, none⟩ = some (.int .i64 (pa : Int)) ∧ w'.cell? ⟨wr.heap.size, 2, none⟩ = some (.int .i64 (pb : Int)) ∧ w'.cell? ⟨gW, pa, none⟩ = some (.slice a1 n c1) ∧ w'.cell? ⟨gW, pb, none⟩ = some (.slice a2 n c2) ∧ gp < w'.heap.size ∧ wr.heap.size < w'.heap.size ∧ gW < w'.heap.size) := fun w' hb => ⟨by rw [hb.cell hlp]; exact f4, by rw [hb.cell hltA]; exact q2, by rw [hb.cell hltA]; exact q3, by rw [hb.cell hgW]; exact e1, by rw [hb.cell hgW]; exact e2, Nat.lt_of_lt_of_le hlp hb.size, Nat.lt_of_lt_of_le hltA hb.size, Nat.lt_of_lt_of_le hgW hb.size⟩
  go_region_held3 (fun w' => w'.cell? ⟨gp, 4, none⟩ = some (.slice (some ⟨gW, 0, none⟩) i cW) ∧ w'.cell? ⟨wr.heap.size, 1, none⟩ = some (.int .i64 (pa : Int)) ∧ w'.cell? ⟨wr.heap.size, 2, none⟩ = some (.int .i64 (pb : Int)) ∧ w'.cell? ⟨gW, pa, none⟩ = some (.slice a1 n c1) ∧ w'.cell? ⟨gW, pb, none⟩ = some (.slice a2 n c2)) (go_keep) (first | (go_at_call 93; refine (cGSub a1 n c1 _ a2 n c2 _ _ r1.drew r2.drew).mono ?_; rintro en w3 ⟨⟨hno, _⟩ | ⟨_, u, rfl, ho⟩, hb3⟩; exact absurd HW2.out hno; have HP := HF.out u w3 ho hb3; obtain ⟨j4, j1, j2, j5, j6, j7, j8, j9⟩ := HALL.out w3 hb3; clear ho hb3))
  all_goals
    go_wp2
    go_ret
    exact ⟨u, rfl, HP⟩
end Go.Proofs.YtgmelcdgnjcojagDoor

namespace Go.Proofs.YtgmelcdgnjcojagDoor
open Go.RowKit Crm

set_option maxRecDepth 100000 in
set_option maxHeartbeats 8000000 in
theorem eRkMul {G : List Gt} {n t : Nat} {ins ds : List Int} {w wr : World} {gp gs i N q d lo hh cW pa pb : Nat} {vi vd : Value} {aW : Option Addr} {Ls LW : List Value} {z : Int} (h : PSt w wr gp gs n t vi vd Ls (sgl G n t ins ds i) (.slice aW i cW) LW (ewr G n t ins ds i) lo hh)
    (hvi : Lft w ins q (ci G i) vi) (hvd : Lft w ds d (dwn G n t i) vd) (HGi : Hid (gt G i = ⟨5, pa, pb, z⟩)) (hpa : pa < i) (hpb : pb < i) (hi : i < N) (hN : N ≤ 30) (hd : d = dwn G n t N) (hn : 2 * t + 1 ≤ n) (hn9 : n ≤ 9) :
    Calls Tryd.prog 65 #[.pointer (some ⟨gp, 0, none⟩), .agg #[.int .i64 5, .int .i64 (pa : Int), .int .i64 (pb : Int), .int .u64 z]] wr fun e w' => ∃ u, e = .returned u ∧ Pgt G n t ins ds q d w gp gs i (.slice aW i cW) LW u w' := by
  have hbA : Below wr.heap.size wr (wr.alloc (.cells #[.int .i64 5, .int .i64 (pa : Int), .int .i64 (pb : Int), .int .u64 z] 61)) := (Below.refl _ _).alloc (Nat.le_refl _) _
  obtain ⟨q1, q2, q3, q4⟩ := gate_box wr 5 pa pb z 61
  have hltA : wr.heap.size < (wr.alloc (.cells #[.int .i64 5, .int .i64 (pa : Int), .int .i64 (pb : Int), .int .u64 z] 61)).heap.size := by simp
  have hPA := h.below hbA
  obtain ⟨gW, a1, c1, rfl, hgW, e1, l1, r1⟩ := hPA.wire hpa
  obtain ⟨gW', a2, c2, e', _, e2, l2, r2⟩ := hPA.wire hpb
  simp only [Option.some.injEq, Addr.mk.injEq, and_true] at e'
  subst e'
  have hgx : (wr.alloc (.cells #[.int .i64 5, .int .i64 (pa : Int), .int .i64 (pb : Int), .int .u64 z] 61)).heap[wr.heap.size]? = some (.cells #[.int .i64 5, .int .i64 (pa : Int), .int .i64 (pb : Int), .int .u64 z] 61 (0, 0)) := heap_alloc_new wr _
  obtain ⟨_, _, _, _, f4, _⟩ := hPA.box.cells
  have hlp := hPA.box.lt
  have hpa0 : (0 : Int) ≤ (pa : Int) := by omega
  have hpai : (pa : Int) < (i : Int) := by omega
  have hpb0 : (0 : Int) ≤ (pb : Int) := by omega
  have hpbi : (pb : Int) < (i : Int) := by omega
  go_enter Tryd.func65, Tryd.ntmps65
  go_upto_region 11 with fail
  generalize wr.alloc (.cells #[.int .i64 5, .int .i64 (pa : Int), .int .i64 (pb : Int), .int .u64 z] 61) = W at *
  have hPAD := hPA.drew
  have HALL : Hid (∀ u w', Pgt G n t ins ds q d w gp gs i (.slice (some ⟨gW, 0, none⟩) i cW) LW u w' → w'.heap[wr.heap.size]? = some (.cells #[.int .i64 5, .int .i64 (pa : Int), .int .i64 (pb : Int), .int .u64 z] 61 (0, 0)) → w'.cell? ⟨gp, 4, none⟩ = some (.slice (some ⟨gW, 0, none⟩) i cW) ∧ w'.cell? ⟨wr.heap.size, 1, none⟩ = some (.int .i64 (pa : Int)) ∧ w'.cell? ⟨wr.heap.size, 2, none⟩ = some (.int .i64 (pb : Int)) ∧ w'.cell? ⟨gW, pa, none⟩ = some (.slice a1 n c1) ∧ w'.cell? ⟨gW, pb, none⟩ = some (.slice a2 n c2)) := fun u w' hp hx => by
    obtain ⟨vi', vd', Ls', lo', hi', hP', _⟩ := hp
    obtain ⟨g1, b1, d1, ee1, _, k1, m1, _⟩ := hP'.wire hpa
    obtain ⟨g2, b2, d2, ee2, _, k2, m2, _⟩ := hP'.wire hpb
    simp only [Option.some.injEq, Addr.mk.injEq, and_true] at ee1 ee2
    subst ee1 ee2
    rw [l1] at m1
    rw [l2] at m2
    refine ⟨hP'.box.cells.2.2.2.2.1, ?_, ?_, by rw [k1, m1], by rw [k2, m2]⟩
    · rw [cell_of_row w' _ 1 _ _ (0, 0) hx]; rfl
    · rw [cell_of_row w' _ 2 _ _ (0, 0) hx]; rfl
  clear h hPA r1 r2
  go_region_held3 (fun w' => w'.cell? ⟨gp, 4, none⟩ = some (.slice (some ⟨gW, 0, none⟩) i cW) ∧ w'.cell? ⟨wr.heap.size, 1, none⟩ = some (.int .i64 (pa : Int)) ∧ w'.cell? ⟨wr.heap.size, 2, none⟩ = some (.int .i64 (pb : Int)) ∧ w'.cell? ⟨gW, pa, none⟩ = some (.slice a1 n c1) ∧ w'.cell? ⟨gW, pb, none⟩ = some (.slice a2 n c2)) (go_keep) (first | (go_at_call 94; refine (eMultiply (pa := pa) (pb := pb) hPAD hvi hvd (by rw [HGi.out]) (by rw [HGi.out]) hpa (by rw [HGi.out]) hpb l1 l2 hi hN hd hn hn9 hgx (by decide) (by decide) (by decide)).mono ?_; rintro en w3 ⟨u, rfl, HP, hgx3⟩; obtain ⟨j4, j1, j2, j5, j6⟩ := HALL.out u w3 HP hgx3; clear hgx3))
  all_goals
    go_wp2
    go_ret
    exact ⟨u, rfl, HP⟩
end Go.Proofs.YtgmelcdgnjcojagDoor
