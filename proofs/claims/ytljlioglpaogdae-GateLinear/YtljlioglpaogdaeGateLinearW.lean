/- The walk of croftkeep.GateLinear. -/
import Derived.Test.YtljlioglpaogdaeToGateTimesW
import Derived.Deep.DeepCutAuto
namespace Go.Proofs.Ytljlioglpaogdae
set_option linter.unusedVariables false
set_option maxRecDepth 100000
set_option maxHeartbeats 8000000
section
open Crm Go.RowKit
/-- A variable that is boxed. -/
def One (w : World) (g : Nat) (v : Value) (T : TypeId) : Prop := w.heap[g]? = some (.cells #[v] T (0, 0))
theorem One.lt {w : World} {g : Nat} {v : Value} {T : TypeId} (h : One w g v T) : g < w.heap.size := (Array.getElem?_eq_some_iff.1 h).1
theorem One.cell {w : World} {g : Nat} {v : Value} {T : TypeId} (h : One w g v T) : w.cell? ⟨g, 0, none⟩ = some v := by
  rw [cell_of_row w g 0 _ _ (0, 0) h]; rfl
theorem One.frozen {w : World} {g : Nat} {v : Value} {T : TypeId} (h : One w g v T) : w.frozen? ⟨g, 0, none⟩ = false := frozen_of_row w g 0 _ _ h
theorem One.set {w : World} {g : Nat} {v : Value} {T : TypeId} (h : One w g v T) (u : Value) : One (w.setCell ⟨g, 0, none⟩ u) g u T := by
  have := heap_setCell_same w g 0 _ _ u h
  unfold One
  rw [this]
  rfl
theorem One.below {w w' : World} {B g : Nat} {v : Value} {T : TypeId} (h : One w g v T) (hb : Below B w w') (hg : g < B) : One w' g v T := by
  unfold One; rw [hb.block g hg]; exact h
theorem One.new (w : World) (v : Value) (T : TypeId) : One (w.alloc (.cells #[v] T)) w.heap.size v T := heap_alloc_new w _
theorem One.grown {w w' : World} {g : Nat} {r : Option Nat} {v : Value} {T : TypeId} (h : One w g v T) (hb : w.grownBy w' r) (hg : some g ≠ r) : One w' g v T := by
  unfold One; rw [hb.block g h.lt hg]; exact h
theorem shl_bd {L : List Int} {n : Nat} (hn : n ≤ 9) (h : ∀ x ∈ L, 0 ≤ x ∧ x ≤ 18446744073709551615) : ∀ i, i < n → (-9223372036854775808 ≤ ((shl L n).getD i (0, 0)).1 ∧ ((shl L n).getD i (0, 0)).1 ≤ 9223372036854775807) ∧ 0 ≤ ((shl L n).getD i (0, 0)).2 ∧ ((shl L n).getD i (0, 0)).2 ≤ 18446744073709551615 := fun i hi => by
  rw [shl_getD L hi]
  exact ⟨⟨by simp only; omega, by simp only; omega⟩, getD_bd h i⟩
/-- A list that lies ahead of a box is read when the box is written. -/
theorem Rd.ahead {w w' : World} {a : Option Addr} {n c g : Nat} {xs : List Int} (h : Rd w a n c xs) (hg : w.grownBy w' (some g)) (hlt : ∀ x, a = some x → x.block < g) : Rd w' a n c xs := by
  refine h.grown hg fun x hx e => ?_
  have := hlt x hx
  simp only [Option.some.injEq] at e
  omega

theorem kIs (gt gk k m : Nat) (al : Option Addr) (cl : Nat) (L C : List Int) (x : Int) (w : World) (ht : One w gt (.int .i64 (k : Int)) 3) (ho : One w gk (.bool true) 4) (hr : Rd w al m cl L) (hk : k ≤ 4) (hkm : k < m) (hm : m ≤ 9) (hC : C.length ≤ k + 1) (hL : ∀ i, i < m → L.getD i 0 = nm (ev C ((i : Int) + 1))) (hx : x = nm (ev C 0)) :
    Calls Try.prog 30 #[.slice al m cl, .int .i64 0, .int .u64 x, .pointer (some ⟨gt, 0, none⟩), .pointer (some ⟨gk, 0, none⟩)] w fun e w' => e = .returned (.tuple #[]) ∧ One w' gk (.bool true) 4 ∧ w.grownBy w' (some gk) := by
  have htc := ht.cell
  have HC : Hid (C.length ≤ k + 1) := hC
  have HL : Hid (∀ i, i < m → L.getD i 0 = nm (ev C ((i : Int) + 1))) := hL
  have HX : Hid (x = nm (ev C 0)) := hx
  have hxb : 0 ≤ x ∧ x ≤ 2147483646 := by rw [hx]; exact nm_bd _
  have hbL := hr.bd
  clear hC hL hx
  go_enter Try.func30, Try.ntmps30
  go_wp2
  go_region_law (first | (go_simp; go_at_call 14; refine (kShares _ _ _ _ _ hr.drew hm).mono ?_; rintro en w1 ⟨v, rfl, hos, hb1⟩; have ht1 : w1.cell? ⟨gt, 0, none⟩ = some (.int .i64 (k : Int)) := ((show One w.drew gt (.int .i64 (k : Int)) 3 from ht).below hb1 ht.lt).cell; obtain ⟨aS, cS, rfl, hRs⟩ := RdS.own hos (shl_len _ _) (shl_bd hm hbL)) | (go_simp; go_at_call 31; refine (cOpenS _ _ _ _ _ _ hRs).mono ?_; rintro en w2 ⟨z, r, rfl, hO, hb2⟩; obtain ⟨hz, hrr⟩ := shl_open hm hk hkm HC.out HL.out hO; rw [← HX.out] at hz; subst hz; subst hrr; clear hO))
  all_goals
    have hgw : w.grownBy w2 (some gk) := grown_below ((Below.refl _ _).drew.trans ((hb1.trans (hb2.mono hb1.size)))) _
    have ho2 : One w2 gk (.bool true) 4 := by
      have h1 := (show One w.drew gk (.bool true) 4 from ho).below hb1 ho.lt
      exact h1.below hb2 h1.lt
    have oc := ho2.cell
    have of := ho2.frozen
    have ol := ho2.lt
    have HE1 : Hid (One _ _ _ _) := ho2.set (.bool true)
    have HE2 : Hid (World.grownBy _ _ _) := grown_trans hgw (grown_set w2 gk 0 (.bool true))
    clear hos hb1 hb2 ht1 hRs hgw ho2
    go_wp2
    exact bodyPost_end (v := .tuple #[]) (by simp [results, Try.results30, go_sem]) rfl ⟨rfl, HE1.out, HE2.out⟩

theorem gateLinearW (x y : Int) (a0 : Option Addr) (n0 c0 : Nat) (xs : List Int) (a1 : Option Addr) (n1 c1 : Nat) (ys : List Int) (t n kk : Int) (w : World) (hx0 : 0 ≤ x) (hx1 : x ≤ 18446744073709551615) (hy0 : 0 ≤ y) (hy1 : y ≤ 18446744073709551615) (h0 : Rd w a0 n0 c0 xs) (h1 : Rd w a1 n1 c1 ys) (hk0 : 0 ≤ kk) (hk1 : kk ≤ 18446744073709551615) :
    Calls Try.prog 7 #[.int .u64 x, .int .u64 y, .slice a0 n0 c0, .slice a1 n1 c1, .int .i64 t, .int .i64 n, .int .u64 kk] w fun e w' => e = .returned (.bool true) ∧ Below w.heap.size w w' := by
  go_enter Try.func7, Try.ntmps7
  have hT0 := One.new w (.int .i64 t) 3
  have hb0 : Below w.heap.size w (w.alloc (.cells #[.int .i64 t] 3)) := (Below.refl _ _).alloc (Nat.le_refl _) _
  go_upto_region 1 with fail
  generalize w.alloc (.cells #[.int .i64 t] 3) = w0 at *
  have hbA : Below w0.heap.size w0 (w0.alloc (.cells #[.int .u64 1, .int .u64 2] 22)) := (Below.refl _ _).alloc (Nat.le_refl _) _
  have hbB : Below (w0.alloc (.cells #[.int .u64 1, .int .u64 2] 22)).heap.size (w0.alloc (.cells #[.int .u64 1, .int .u64 2] 22)) ((w0.alloc (.cells #[.int .u64 1, .int .u64 2] 22)).alloc (.cells #[.int .u64 3, .int .u64 2147483645] 22)) := (Below.refl _ _).alloc (Nat.le_refl _) _
  have hb1 := hbA.trans (hbB.mono hbA.size)
  have r1 := (rd_of2 w0 (x := 1) (y := 2) (by omega) (by omega)).below hbB
  have r2 := rd_of2 (w0.alloc (.cells #[.int .u64 1, .int .u64 2] 22)) (x := 3) (y := 2147483645) (by omega) (by omega)
  have e0 : (w0.alloc (.cells #[.int .u64 1, .int .u64 2] 22)).heap.size = w0.heap.size + 1 := by simp
  rw [e0] at r2
  clear e0 hbA hbB
  go_wp2_with fail
  generalize (w0.alloc (.cells #[.int .u64 1, .int .u64 2] 22)).alloc (.cells #[.int .u64 3, .int .u64 2147483645] 22) = v1 at *
  refine (cGAdd _ _ _ _ _ _ _ _ _ r1 r2).mono ?_
  rintro e v2 ⟨⟨hN, _⟩ | ⟨_, v, rfl, hown⟩, hb2⟩
  · exact absurd (show Wr2 2 2 from ⟨⟨by omega, by omega⟩, rfl⟩) hN
  · have e4 : mxl [1, 2] [3, 2147483645] 1 1 0 2 = [4, 0] := by decide
    obtain ⟨a3, c3, rfl, hr3, _⟩ := Rd.own hown (bd_u64 (mxl_bd _ _ _ _ _ _))
    rw [e4] at hr3
    have hb02 := hb1.trans (hb2.mono hb1.size)
    clear hown hb1 hb2 r1 r2 e4
    have hb12 : Below v2.heap.size v2 (v2.alloc (.cells #[.int .u64 4, .int .u64 0] 22)) := (Below.refl _ _).alloc (Nat.le_refl _) _
    have r12 := rd_of2 v2 (x := 4) (y := 0) (by omega) (by omega)
    have hb03 := hb02.trans (hb12.mono hb02.size)
    have hr3' := hr3.below hb12
    go_wp2_with fail
    generalize v2.alloc (.cells #[.int .u64 4, .int .u64 0] 22) = v3 at *
    refine (cSame _ _ _ _ _ _ _ _ hr3' r12).mono ?_
    rintro e v4 ⟨rfl, hb4⟩
    have hb04 := hb03.trans (hb4.mono hb03.size)
    have hT4 := hT0.below hb04 hT0.lt
    have hbw4 := hb0.trans (hb04.mono hb0.size)
    have ht4 := hT4.cell
    clear hr3 hr3' r12 hb12 hb4 hb02 hb03 hb04 hT0 hb0
    go_wp2_with fail
    refine (kCrew _ _ _).mono ?_
    rintro e w' ⟨⟨k, m, rfl, hk, hkm, hm⟩, hw⟩
    have hw := hw.symm
    subst hw
    have hf4 := hT4.frozen
    have hT5 := hT4.set (.int .i64 (k : Int))
    have hbw5 : Below w.heap.size w (v4.setCell ⟨w.heap.size, 0, none⟩ (.int .i64 (k : Int))) := hbw4.setCell (p := ⟨w.heap.size, 0, none⟩) (Nat.le_refl _) _
    have hlt4 := hT4.lt
    go_upto_region 5 with fail
    generalize v4.setCell ⟨w.heap.size, 0, none⟩ (.int .i64 (k : Int)) = v5 at *
    have ht5 := hT5.cell
    clear hT4 ht4 hf4 hbw4 hlt4
    go_wp2_with fail
    refine (kFilled _ _ _ _ k _ (h0.below hbw5) hk).mono ?_
    rintro e v6 ⟨g6, rfl, r6, hb6⟩
    have hbw6 := hbw5.trans (hb6.mono hbw5.size)
    have hT6 := hT5.below hb6 hT5.lt
    go_wp2_with fail
    refine (cDealOK x _ _ _ _ m _ r6 hx0 hx1 hk (by omega) hm).mono ?_
    rintro e v7 ⟨g7, rfl, r7, _, hb7⟩
    have hbw7 := hbw6.trans (hb7.mono hbw6.size)
    have hT7 := hT6.below hb7 hT6.lt
    have ht7 := hT7.cell
    clear r6 hb6 hb7 hbw6 hbw5 hT5 hT6 ht5
    go_wp2_with fail
    refine (kFilled _ _ _ _ k _ (h1.below hbw7) hk).mono ?_
    rintro e v8 ⟨g8, rfl, r8, hb8⟩
    have hbw8 := hbw7.trans (hb8.mono hbw7.size)
    have r7' := r7.below hb8
    have hT8 := hT7.below hb8 hT7.lt
    go_wp2_with fail
    refine (cDealOK y _ _ _ _ m _ r8 hy0 hy1 hk (by omega) hm).mono ?_
    rintro e v9 ⟨g9, rfl, ry, _, hb9⟩
    have hbw9 := hbw8.trans (hb9.mono hbw8.size)
    have rx := r7'.below hb9
    have hT9 := hT8.below hb9 hT8.lt
    clear r7 r7' r8 hb8 hb9 hbw7 hbw8 hT7 hT8 ht7
    obtain ⟨A, HA⟩ : ∃ A, Hid (x :: padded xs k = A) := ⟨_, rfl⟩
    obtain ⟨B, HB⟩ : ∃ B, Hid (y :: padded ys k = B) := ⟨_, rfl⟩
    have HAl : Hid (A.length ≤ k + 1) := by unfold Hid; rw [← HA.out]; simp [padded_len]
    have HBl : Hid (B.length ≤ k + 1) := by unfold Hid; rw [← HB.out]; simp [padded_len]
    have HA0 : Hid (ev A 0 = x) := by unfold Hid; rw [← HA.out, ev_cons0]
    have HB0 : Hid (ev B 0 = y) := by unfold Hid; rw [← HB.out, ev_cons0]
    rw [HA.out] at rx
    rw [HB.out] at ry
    have hO := One.new v9 (.bool true) 4
    have hbO : Below v9.heap.size v9 (v9.alloc (.cells #[.bool true] 4)) := (Below.refl _ _).alloc (Nat.le_refl _) _
    have hgx : g7 < v9.heap.size := by obtain ⟨b, o, e, hb, _⟩ := rx.at (show 0 < m by omega); simp only [Option.some.injEq, Addr.mk.injEq, and_true] at e; rw [e.1]; exact hb
    have hgy : g9 < v9.heap.size := by obtain ⟨b, o, e, hb, _⟩ := ry.at (show 0 < m by omega); simp only [Option.some.injEq, Addr.mk.injEq, and_true] at e; rw [e.1]; exact hb
    have hgt : w.heap.size < v9.heap.size := hT9.lt
    have rxO := rx.below hbO
    have ryO := ry.below hbO
    have hTO := hT9.below hbO hT9.lt
    have hbwO := hbw9.trans (hbO.mono hbw9.size)
    go_upto_region 11 with fail
    generalize v9.alloc (.cells #[.bool true] 4) = vO at *
    clear rx ry hT9 hbO hbw9
    have hs9 : v9.heap.size < vO.heap.size := hO.lt
    have Hm1 : Hid (Wr2 m m) := ⟨⟨by omega, by omega⟩, rfl⟩
    have Hm2 : Hid (Wr1 m) := ⟨by omega, by omega⟩
    go_wp2_with fail
    refine (cGAdd _ _ _ _ _ _ _ _ _ rxO ryO).mono ?_
    rintro e u1 ⟨⟨hN, _⟩ | ⟨_, v10, rfl, hown⟩, hb⟩
    · exact absurd Hm1.out hN
    obtain ⟨al1, cl1, rfl, hr, _⟩ := Rd.own hown (bd_u64 (mxl_bd _ _ _ _ _ _))
    obtain ⟨P, p1, p2, p3⟩ := mxl_dealt (A := A) (B := B) (a := 1) (b := 1) (c := 0) (n := m) (t := k) HAl.out HBl.out
    have p4 : nm (x + y) = nm (ev P 0) := by
      rw [p3, HA0.out, HB0.out]
      unfold nm; omega
    have HP1 : Hid (P.length ≤ k + 1) := p1
    have HP2 : Hid (∀ i, i < m → _ = _) := p2
    have HP4 : Hid (nm (x + y) = nm (ev P 0)) := p4
    have hT1 := hTO.below hb hTO.lt
    have hO1 := hO.below hb hO.lt
    have rx1 := rxO.below hb
    have ry1 := ryO.below hb
    have hbw1 := hbwO.trans (hb.mono hbwO.size)
    clear hown hb p1 p2 p3 p4 rxO ryO hTO hO hbwO
    go_wp2_with (go_at_call 18; refine (fAdd _ _ _ hx0 hx1 hy0 hy1).mono ?_; rintro e w' ⟨rfl, hw⟩; have hw := hw.symm; subst hw)
    refine (kIs _ _ k m _ _ _ P _ _ hT1 hO1 hr hk (by omega) hm HP1.out HP2.out HP4.out).mono ?_
    rintro e z1 ⟨rfl, hOz1, hg⟩
    have hTz1 := hT1.grown hg (by simp only [ne_eq, Option.some.injEq]; omega)
    have rxz1 := rx1.ahead hg (fun q hq => by obtain rfl := Option.some.inj hq; exact hgx)
    have ryz1 := ry1.ahead hg (fun q hq => by obtain rfl := Option.some.inj hq; exact hgy)
    have hbz1 := hbw1.grown hg hbw1.size (fun q hq => by simp only [Option.some.injEq] at hq; omega)
    clear hr hg hT1 hO1 rx1 ry1 hbw1 HP1 HP2 HP4
    go_wp2_with fail
    refine (cGSub _ _ _ _ _ _ _ _ _ rxz1 ryz1).mono ?_
    rintro e u2 ⟨⟨hN, _⟩ | ⟨_, v20, rfl, hown⟩, hb⟩
    · exact absurd Hm1.out hN
    obtain ⟨al2, cl2, rfl, hr, _⟩ := Rd.own hown (bd_u64 (mxl_bd _ _ _ _ _ _))
    obtain ⟨P, p1, p2, p3⟩ := mxl_dealt (A := A) (B := B) (a := 1) (b := 2147483646) (c := 0) (n := m) (t := k) HAl.out HBl.out
    have p4 : nm (x - y) = nm (ev P 0) := by
      rw [p3, HA0.out, HB0.out]
      unfold nm; omega
    have HP1 : Hid (P.length ≤ k + 1) := p1
    have HP2 : Hid (∀ i, i < m → _ = _) := p2
    have HP4 : Hid (nm (x - y) = nm (ev P 0)) := p4
    have hT2 := hTz1.below hb hTz1.lt
    have hO2 := hOz1.below hb hOz1.lt
    have rx2 := rxz1.below hb
    have ry2 := ryz1.below hb
    have hbw2 := hbz1.trans (hb.mono hbz1.size)
    clear hown hb p1 p2 p3 p4 rxz1 ryz1 hTz1 hOz1 hbz1
    go_wp2_with (go_at_call 33; refine (fSub _ _ _ hx0 hx1 hy0 hy1).mono ?_; rintro e w' ⟨rfl, hw⟩; have hw := hw.symm; subst hw)
    refine (kIs _ _ k m _ _ _ P _ _ hT2 hO2 hr hk (by omega) hm HP1.out HP2.out HP4.out).mono ?_
    rintro e z2 ⟨rfl, hOz2, hg⟩
    have hTz2 := hT2.grown hg (by simp only [ne_eq, Option.some.injEq]; omega)
    have rxz2 := rx2.ahead hg (fun q hq => by obtain rfl := Option.some.inj hq; exact hgx)
    have ryz2 := ry2.ahead hg (fun q hq => by obtain rfl := Option.some.inj hq; exact hgy)
    have hbz2 := hbw2.grown hg hbw2.size (fun q hq => by simp only [Option.some.injEq] at hq; omega)
    clear hr hg hT2 hO2 rx2 ry2 hbw2 HP1 HP2 HP4
    go_wp2_with fail
    refine (cGScale _ _ _ _ _ _ rxz2 hk0 hk1).mono ?_
    rintro e u3 ⟨⟨hN, _⟩ | ⟨_, v30, rfl, hown⟩, hb⟩
    · exact absurd Hm2.out hN
    obtain ⟨al3, cl3, rfl, hr, _⟩ := Rd.own hown (bd_u64 (mxl_bd _ _ _ _ _ _))
    obtain ⟨P, p1, p2, p3⟩ := mxl_dealt (A := A) (B := A) (a := kk) (b := 0) (c := 0) (n := m) (t := k) HAl.out HAl.out
    have p4 : nm (x * kk) = nm (ev P 0) := by
      rw [p3, HA0.out]
      rw [Int.mul_comm x kk, Int.zero_mul, Int.add_zero, Int.add_zero]
    have HP1 : Hid (P.length ≤ k + 1) := p1
    have HP2 : Hid (∀ i, i < m → _ = _) := p2
    have HP4 : Hid (nm (x * kk) = nm (ev P 0)) := p4
    have hT3 := hTz2.below hb hTz2.lt
    have hO3 := hOz2.below hb hOz2.lt
    have rx3 := rxz2.below hb
    have ry3 := ryz2.below hb
    have hbw3 := hbz2.trans (hb.mono hbz2.size)
    clear hown hb p1 p2 p3 p4 rxz2 ryz2 hTz2 hOz2 hbz2
    go_wp2_with (go_at_call 35; refine (fMul _ _ _ hx0 hx1 hk0 hk1).mono ?_; rintro e w' ⟨rfl, hw⟩; have hw := hw.symm; subst hw)
    refine (kIs _ _ k m _ _ _ P _ _ hT3 hO3 hr hk (by omega) hm HP1.out HP2.out HP4.out).mono ?_
    rintro e z3 ⟨rfl, hOz3, hg⟩
    have hTz3 := hT3.grown hg (by simp only [ne_eq, Option.some.injEq]; omega)
    have rxz3 := rx3.ahead hg (fun q hq => by obtain rfl := Option.some.inj hq; exact hgx)
    have ryz3 := ry3.ahead hg (fun q hq => by obtain rfl := Option.some.inj hq; exact hgy)
    have hbz3 := hbw3.grown hg hbw3.size (fun q hq => by simp only [Option.some.injEq] at hq; omega)
    clear hr hg hT3 hO3 rx3 ry3 hbw3 HP1 HP2 HP4
    go_wp2_with fail
    refine (cGPlus _ _ _ _ _ _ rxz3 hk0 hk1).mono ?_
    rintro e u4 ⟨⟨hN, _⟩ | ⟨_, v40, rfl, hown⟩, hb⟩
    · exact absurd Hm2.out hN
    obtain ⟨al4, cl4, rfl, hr, _⟩ := Rd.own hown (bd_u64 (mxl_bd _ _ _ _ _ _))
    obtain ⟨P, p1, p2, p3⟩ := mxl_dealt (A := A) (B := A) (a := 1) (b := 0) (c := kk) (n := m) (t := k) HAl.out HAl.out
    have p4 : nm (x + kk) = nm (ev P 0) := by
      rw [p3, HA0.out]
      unfold nm; omega
    have HP1 : Hid (P.length ≤ k + 1) := p1
    have HP2 : Hid (∀ i, i < m → _ = _) := p2
    have HP4 : Hid (nm (x + kk) = nm (ev P 0)) := p4
    have hT4 := hTz3.below hb hTz3.lt
    have hO4 := hOz3.below hb hOz3.lt
    have rx4 := rxz3.below hb
    have ry4 := ryz3.below hb
    have hbw4 := hbz3.trans (hb.mono hbz3.size)
    clear hown hb p1 p2 p3 p4 rxz3 ryz3 hTz3 hOz3 hbz3
    go_wp2_with (go_at_call 18; refine (fAdd _ _ _ hx0 hx1 hk0 hk1).mono ?_; rintro e w' ⟨rfl, hw⟩; have hw := hw.symm; subst hw)
    refine (kIs _ _ k m _ _ _ P _ _ hT4 hO4 hr hk (by omega) hm HP1.out HP2.out HP4.out).mono ?_
    rintro e z4 ⟨rfl, hOz4, hg⟩
    have hTz4 := hT4.grown hg (by simp only [ne_eq, Option.some.injEq]; omega)
    have rxz4 := rx4.ahead hg (fun q hq => by obtain rfl := Option.some.inj hq; exact hgx)
    have ryz4 := ry4.ahead hg (fun q hq => by obtain rfl := Option.some.inj hq; exact hgy)
    have hbz4 := hbw4.grown hg hbw4.size (fun q hq => by simp only [Option.some.injEq] at hq; omega)
    clear hr hg hT4 hO4 rx4 ry4 hbw4 HP1 HP2 HP4
    have oc := hOz4.cell
    have ol := hOz4.lt
    go_wp2
    go_ret
    exact ⟨rfl, hbz4⟩
end
end Go.Proofs.Ytljlioglpaogdae
