/- croftkeep.short; short lists that a law writes out. · The parties' deal. · croftref.Wire. -/
import Derived.Test.YtgmelcdgnjcojagDoorProg
import Derived.Test.YtgmelcdgnjcojagDoorToPolyM
import Derived.Test.YtgmelcdgnjcojagDoorToEnD
import Derived.Deep.RegionHeld3
import Derived.Test.YtgmelcdgnjcojagDoorToIntsC
import Derived.Test.YtgmelcdgnjcojagDoorToValC
import Derived.BigQuiet
namespace Go.Proofs.YtgmelcdgnjcojagDoor
open Go.RowKit

theorem Rd.take {w : World} {a : Option Addr} {n c : Nat} {xs : List Int} (h : Rd w a n c xs) {k : Nat} (hk : k ≤ n) : Rd w a k c (xs.take k) := by
  refine ⟨by have := h.len; simp; omega, by have := h.cap; omega, h.max, fun x hx => h.bd x (List.mem_of_mem_take hx), h.nil, fun x hx i hi => ?_⟩
  rw [h.cell x hx i (by omega)]
  congr 2
  simp [hi]

theorem Blk.of2 (w : World) (x y : Int) : Blk (w.alloc (.cells #[.int .u64 x, .int .u64 y] 34)) w.heap.size [x, y] := heap_alloc_new w _
theorem Blk.of3 (w : World) (x y z : Int) : Blk (w.alloc (.cells #[.int .u64 x, .int .u64 y, .int .u64 z] 34)) w.heap.size [x, y, z] := heap_alloc_new w _
theorem rd_of2 (w : World) {x y : Int} (hx : 0 ≤ x ∧ x ≤ 18446744073709551615) (hy : 0 ≤ y ∧ y ≤ 18446744073709551615) : Rd (w.alloc (.cells #[.int .u64 x, .int .u64 y] 34)) (some ⟨w.heap.size, 0, none⟩) 2 2 [x, y] :=
  (Blk.of2 w x y).whole 2 rfl (by unfold maxLen; omega) (by
    intro u hu
    simp only [List.mem_cons, List.not_mem_nil, or_false] at hu
    rcases hu with rfl | rfl <;> assumption)
theorem rd_of3 (w : World) {x y z : Int} (hx : 0 ≤ x ∧ x ≤ 18446744073709551615) (hy : 0 ≤ y ∧ y ≤ 18446744073709551615) (hz : 0 ≤ z ∧ z ≤ 18446744073709551615) : Rd (w.alloc (.cells #[.int .u64 x, .int .u64 y, .int .u64 z] 34)) (some ⟨w.heap.size, 0, none⟩) 3 3 [x, y, z] :=
  (Blk.of3 w x y z).whole 3 rfl (by unfold maxLen; omega) (by
    intro u hu
    simp only [List.mem_cons, List.not_mem_nil, or_false] at hu
    rcases hu with rfl | rfl | rfl <;> assumption)
theorem below_one (w : World) (ob : Obj) : Below w.heap.size w (w.alloc ob) := (Below.refl _ _).alloc (Nat.le_refl _) _
end Go.Proofs.YtgmelcdgnjcojagDoor

namespace Go.Proofs.YtgmelcdgnjcojagDoor
open Go.RowKit Crm

/-- What a gate leaves: its numbers, what is seen of it, what is left of the inputs and the draws. -/
def Pgt (G : List Gt) (n t : Nat) (ins ds : List Int) (q d : Nat) (w : World) (gp gs i : Nat) (vW : Value) (LW : List Value) (u : Value) (w' : World) : Prop :=
  ∃ (vi vd : Value) (Ls : List Value) (lo hi : Nat), PSt w w' gp gs n t vi vd Ls (sgl G n t ins ds (i + 1)) vW LW (ewr G n t ins ds i) lo hi ∧ Lft w ins q (ci G (i + 1)) vi ∧ Lft w ds d (dwn G n t (i + 1)) vd ∧ w'.ownsRow w.heap.size 34 1 u n ((ew G n t ins ds i).map (Value.int .u64)) ∧ Btw lo hi u ∧ ∀ p b, (LW.getD p (.slice none 0 0)).ownBlock = some b → b < lo
theorem Lft.nil {w : World} {xs : List Int} {q k : Nat} {a : Option Addr} {n c : Nat} (h : Rd w a n c (xs.drop k)) (hv : n = q - k) : Lft w xs q k (.slice a n c) := by
  subst hv
  exact ⟨a, c, rfl, h⟩
theorem rd_lit1 (w : World) {x : Int} (hx : 0 ≤ x ∧ x ≤ 18446744073709551615) : Rd (w.alloc (.cells #[.int .u64 x] 34)) (some ⟨w.heap.size, 0, none⟩) 1 1 [x] := by
  refine ⟨rfl, Nat.le_refl _, by unfold maxLen; omega, fun z hz => by rw [List.mem_singleton.1 hz]; exact hx, by simp, fun y hy i hi => ?_⟩
  obtain rfl := Option.some.inj hy
  obtain rfl : i = 0 := by omega
  rw [Addr.add_lit, cell_of_row _ _ _ _ 34 (0, 0) (heap_alloc_new w _)]
  rfl

set_option maxRecDepth 100000 in
set_option maxHeartbeats 4000000 in
theorem eDeal {G : List Gt} {n t : Nat} {ins ds : List Int} {w wr : World} {gp gs i N q d lo hh : Nat} {vi vd vW : Value} {Ls LW : List Value} (h : PSt w wr gp gs n t vi vd Ls (sgl G n t ins ds i) vW LW (ewr G n t ins ds i) lo hh)
    (hvi : Lft w ins q (ci G i) vi) (hvd : Lft w ds d (dwn G n t i) vd) (hg : (gt G i).k = 1) (hi : i < N) (hN : N ≤ 30) (hq : q = ci G N) (hd : d = dwn G n t N) (hn : 2 * t + 1 ≤ n) (hn9 : n ≤ 9) :
    Calls Tryd.prog 91 #[.pointer (some ⟨gp, 0, none⟩)] wr fun e w' => ∃ u, e = .returned u ∧ Pgt G n t ins ds q d w gp gs i vW LW u w' := by
  obtain ⟨a1, c1, rfl, r1⟩ := hvi
  obtain ⟨a2, c2, rfl, r2⟩ := hvd
  have hC : ci G i < q := by rw [hq]; exact ci_lt hi hg
  have hD : dwn G n t i + t ≤ d := by
    have e : dwn G n t (i + 1) = dwn G n t i + t := by rw [dwn, if_pos hg]
    rw [← e, hd]
    exact dwn_mono G n t (by omega)
  have HE : Hid (ew G n t ins ds i = dl (ins.getD (ci G i) 0 :: edr G n t ds i t) n) := ew_in hg
  have HC2 : Hid (ci G (i + 1) = ci G i + 1) := ci_in hg
  have HD2 : Hid (dwn G n t (i + 1) = dwn G n t i + t) := by unfold Hid; rw [dwn, if_pos hg]
  obtain ⟨C, HC⟩ : ∃ C, Hid (ci G i = C) := ⟨_, rfl⟩
  obtain ⟨D, HD⟩ : ∃ D, Hid (dwn G n t i = D) := ⟨_, rfl⟩
  rw [HC.out] at hC r1 HE HC2 h
  rw [HD.out] at hD r2 HD2 h
  have HED : Hid ((ds.drop D).take t = edr G n t ds i t) := by unfold Hid edr; rw [HD.out]
  obtain ⟨M, HM⟩ : ∃ M, Hid (q - C = M) := ⟨_, rfl⟩
  obtain ⟨K, HK⟩ : ∃ K, Hid (d - D = K) := ⟨_, rfl⟩
  have hM : 1 ≤ M := by have := HM.out; omega
  have hK : t ≤ K := by have := HK.out; omega
  rw [HM.out] at r1
  rw [HK.out] at r2
  obtain ⟨b, o, x, rfl, hbb, HX, hx0, hx1, hcx⟩ := (r1.below h.sen.bel).one (k := 0) hM
  rw [Nat.add_zero] at hcx
  have HX0 : Hid (ins.getD C 0 = x) := by unfold Hid; rw [← HX.out]; simp
  rw [HX0.out] at HE
  rw [HM.out, HK.out] at h
  have hcap1 := r1.cap
  have hcap2 := r2.cap
  have r1' := r1.sub (lo := 1) (k := M - 1) (by omega)
  have r2' := r2.sub (lo := t) (k := K - t) (by omega)
  have r3 := r2.take hK
  rw [HED.out] at r3
  obtain ⟨X1, HX1⟩ : ∃ X1, Hid (subA (some ⟨b, o, none⟩) c1 1 = X1) := ⟨_, rfl⟩
  obtain ⟨X2, HX2⟩ : ∃ X2, Hid (subA a2 c2 t = X2) := ⟨_, rfl⟩
  rw [HX1.out] at r1'
  rw [HX2.out] at r2'
  have e1 : ∀ W, (Instr.sliceAt 22 (.slice (some ⟨b, o, none⟩) M c1) (some (.int .i64 1)) none none).run Tryd.prog W = .ok (.slice X1 (M - 1) (c1 - 1)) W := fun W => by rw [← HX1.out]; exact run_subl Tryd.underlying22 infoRpt (some ⟨b, o, none⟩) M c1 1 rfl hM W
  obtain ⟨d0, d1, d2, d3, d4, d5⟩ := h.box.cells
  have hlp := h.box.lt
  have hfz := h.box.frozen 2
  have hP2 := h.turn (w' := wr.setCell ⟨gp, 2, none⟩ (.slice X1 (M - 1) (c1 - 1))) (grown_set _ _ _ _) (h.box.set2 _)
  have hlp2 : gp < (wr.setCell ⟨gp, 2, none⟩ (.slice X1 (M - 1) (c1 - 1))).heap.size := hP2.box.lt
  go_enter Tryd.func91, Tryd.ntmps91
  go_upto_region 3 with fail
  generalize wr.setCell ⟨gp, 2, none⟩ (.slice X1 (M - 1) (c1 - 1)) = W2 at *
  clear d0 d1 d2 d3 d4 d5 hlp hfz h hcx hbb e1
  obtain ⟨f0, f1, _, _, _, _⟩ := hP2.box.cells
  have hP2D := hP2.drew
  have HP3 : Hid (∀ w3, w3 = W2.drew.setCell ⟨gp, 3, none⟩ (.slice X2 (K - t) (c2 - t)) → PSt w w3 gp gs n t (.slice X1 (M - 1) (c1 - 1)) (.slice X2 (K - t) (c2 - t)) Ls (sgx (sng G n t ins ds i) (esn G n t ins ds i) n 0) vW LW (ewr G n t ins ds i) lo hh) := fun w3 e => by
    subst e
    rw [← sgl_first]
    exact hP2D.turn (grown_set _ _ _ _) (hP2D.box.set3 _)
  have HT4 : Hid (t ≤ 4 ∧ t < n) := ⟨by omega, by omega⟩
  go_region_held3 (fun w' => w'.cell? ⟨gp, 0, none⟩ = some (.int .i64 (n : Int)) ∧ w'.cell? ⟨gp, 1, none⟩ = some (.int .i64 (t : Int))) (go_keep) (first | (go_at_call 108; refine (eDraw gp n t _ _ _ a2 K c2 t _ hP2D.box r2.nil hK hcap2).mono ?_; rintro en w3 ⟨rfl, hw3⟩; rw [HX2.out] at hw3; have hP3 := HP3.out w3 hw3; clear hw3; obtain ⟨g0, g1, _, _, _, _⟩ := hP3.box.cells; have hl3 := hP3.box.lt) | (go_at_call 13; refine (cDealB x a2 t c2 _ n _ (r3.below hP3.sen.bel) hx0 hx1 HT4.out.1 HT4.out.2 hn9).mono ?_; rintro en w5 ⟨v, rfl, ho, hb5⟩; have hP5 := hP3.fresh (by omega) hb5; obtain ⟨i0, i1, _, _, _, _⟩ := hP5.box.cells; have hl5 := hP5.box.lt))
  all_goals
    obtain ⟨gv, cv, rfl, _, _, hcv, hcv2⟩ := own_atZ ho (by omega)
    unfold maxLen at hcv2
    rw [← HE.out] at ho
    have HBt : Hid (Btw w3.heap.size w5.heap.size (.slice (some ⟨gv, 0, none⟩) n cv)) := fun b hb => ho.lt b hb
    have ho5 := own_baseV ho hP3.sen.bel.size
    have HLW : Hid (∀ p b, (LW.getD p (.slice none 0 0)).ownBlock = some b → b < w3.heap.size) := fun p b hb => (hP3.sen.wires.blk p b hb).2
    have HV1 : Hid (Lft w ins q (ci G (i + 1)) (.slice X1 (M - 1) (c1 - 1))) := by
      unfold Hid
      rw [HC2.out]
      refine Lft.nil ?_ (by have := HM.out; omega)
      rw [List.drop_drop, List.take_of_length_le (by have := r1.len; simp at this; simp; omega)] at r1'
      exact r1'
    have HV2 : Hid (Lft w ds d (dwn G n t (i + 1)) (.slice X2 (K - t) (c2 - t))) := by
      unfold Hid
      rw [HD2.out]
      refine Lft.nil ?_ (by have := HK.out; omega)
      rw [List.drop_drop, List.take_of_length_le (by have := r2.len; simp at this; simp; omega)] at r2'
      exact r2'
    clear ho hb5 hP3 r1 r2 r3 r1' r2' hP2 hP2D HP3 g0 g1 hl3 i0 i1 hl5 f0 f1
    go_wp2
    go_loopw [39] (fun s wq => ∃ (j : Nat) (Ls : List Value), j ≤ n ∧ s = .int .i64 j ∧ PSt w wq gp gs n t (.slice X1 (M - 1) (c1 - 1)) (.slice X2 (K - t) (c2 - t)) Ls (sgx (sng G n t ins ds i) (esn G n t ins ds i) n j) vW LW (ewr G n t ins ds i) w3.heap.size w5.heap.size ∧ wq.ownsRow w.heap.size 34 1 (.slice (some ⟨gv, 0, none⟩) n cv) n ((ew G n t ins ds i).map (Value.int .u64))) (fun s _ => n - (intOf s).toNat)
    case atStart => exact ⟨0, Ls, Nat.zero_le _, rfl, hP5, ho5⟩
    case round =>
      clear hP5 ho5
      obtain ⟨j, Ls, hj, rfl, hP, ho⟩ := hrel
      by_cases hjn : j < n
      · obtain ⟨a6, c6, e6, hr6, _⟩ := Rd.own ho (bd_u64 (ew_bd _ _ _ _ _ _))
        simp only [Value.slice.injEq, true_and] at e6
        obtain ⟨rfl, rfl⟩ := e6
        obtain ⟨b6, o6, y, eb, hb6, HY, hy0, hy1, hcy⟩ := hr6.one hjn
        simp only [Option.some.injEq, Addr.mk.injEq, and_true] at eb
        obtain ⟨rfl, rfl⟩ := eb
        rw [Nat.zero_add] at hcy
        have HES : Hid (esn G n t ins ds i j = [y]) := by unfold Hid esn; rw [if_pos hg, HY.out]
        have hbA : Below wr.heap.size wr (wr.alloc (.cells #[.int .u64 y] 34)) := (Below.refl _ _).alloc (Nat.le_refl _) _
        have hPA := hP.below hbA
        have hoA := own_below ho hbA
        have rA := rd_lit1 wr ⟨hy0, hy1⟩
        have hsb := sng_bound G n t ins ds i j hn9
        go_wp2_with fail
        generalize wr.alloc (.cells #[.int .u64 y] 34) = wA at *
        refine (eSee hPA hjn (by rw [HES.out]; exact rA) (by omega) (by omega) (by omega)).mono ?_
        rintro e w8 ⟨rfl, hs⟩
        obtain ⟨⟨Ls', hP'⟩, hkeep⟩ := hPA.seen hjn hs
        have ho' := hkeep _ _ _ _ _ _ hoA HBt.out
        clear hP hPA ho hoA hr6 hcy hs hkeep hbA rA
        go_wp2
        go_roundw
        case rel => exact ⟨j + 1, Ls', by omega, by go_num, hP', ho'⟩
        case measure => simp [intOf]; omega
      · have hjn2 : j = n := by omega
        subst hjn2
        rw [sgl_next] at hP
        go_wp2
        go_ret
        exact ⟨_, rfl, _, _, Ls, _, _, hP, HV1.out, HV2.out, ho, HBt.out, HLW.out⟩
end Go.Proofs.YtgmelcdgnjcojagDoor

namespace Go.Proofs.YtgmelcdgnjcojagDoor
open Go.RowKit Crm

/-- Slices of which the lengths are read. -/
structure RdL (w : World) (g k : Nat) (ns : List Nat) : Prop where
  len : ns.length = k
  lt : g < w.heap.size
  cell : ∀ i, i < k → ∃ ai ci, w.cell? ⟨g, i, none⟩ = some (.slice ai (ns.getD i 0) ci)
theorem rdL_one (w : World) (a : Option Addr) (n c : Nat) (E : TypeId) : RdL (w.alloc (.cells #[.slice a n c] E)) w.heap.size 1 [n] := by
  refine ⟨rfl, by simp, fun i hi => ?_⟩
  obtain rfl : i = 0 := by omega
  exact ⟨a, c, by rw [cell_of_row _ _ 0 _ E (0, 0) (heap_alloc_new w _)]; rfl⟩
theorem rdL_two (w : World) (a : Option Addr) (n c : Nat) (b : Option Addr) (m d : Nat) (E : TypeId) : RdL (w.alloc (.cells #[.slice a n c, .slice b m d] E)) w.heap.size 2 [n, m] := by
  refine ⟨rfl, by simp, fun i hi => ?_⟩
  match i, hi with
  | 0, _ => exact ⟨a, c, by rw [cell_of_row _ _ 0 _ E (0, 0) (heap_alloc_new w _)]; rfl⟩
  | 1, _ => exact ⟨b, d, by rw [cell_of_row _ _ 1 _ E (0, 0) (heap_alloc_new w _)]; rfl⟩
theorem RdL.below {w w' : World} {g k : Nat} {ns : List Nat} (h : RdL w g k ns) (hb : Below w.heap.size w w') : RdL w' g k ns := by
  refine ⟨h.len, Nat.lt_of_lt_of_le h.lt hb.size, fun i hi => ?_⟩
  obtain ⟨a, c, e⟩ := h.cell i hi
  exact ⟨a, c, by rw [hb.cell (World.block_lt_of_cell? w _ e)]; exact e⟩
/-- Lists of 1 to 9 numbers, all as long. -/
def Wk (ns : List Nat) (k : Nat) : Prop := (1 ≤ ns.getD 0 0 ∧ ns.getD 0 0 ≤ 9) ∧ ∀ i, i < k → ns.getD i 0 = ns.getD 0 0

end Go.Proofs.YtgmelcdgnjcojagDoor
