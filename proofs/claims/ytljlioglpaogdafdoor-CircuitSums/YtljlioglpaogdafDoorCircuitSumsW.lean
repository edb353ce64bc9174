/- The walk of croftkeep.CircuitSums. -/
import Derived.Test.YtljlioglpaogdafDoorCktC
import Derived.Test.YtljlioglpaogdafDoorToTinyC
import Derived.Test.YtljlioglpaogdafDoorToMulC
import Derived.Test.YtljlioglpaogdafDoorCrewC
import Derived.Test.YtljlioglpaogdafDoorToShortC
import Derived.Test.YtljlioglpaogdafDoorDealC
import Derived.BigQuiet
import Derived.Deep.RegionLaw
namespace Go.Proofs.YtljlioglpaogdafDoor
set_option linter.unusedVariables false
set_option maxRecDepth 100000
set_option maxHeartbeats 8000000
section
open Crm Go.RowKit
theorem tny_run : Cre tnyG [4] 5 1 2 0 := by
  refine .inr ⟨.inr ⟨⟨by decide, by decide⟩, .inr ⟨⟨by decide, by decide⟩, .inr ⟨⟨fun i hi => ?_, fun i hi => ?_⟩, rfl⟩⟩⟩, .inr ⟨by decide, rfl⟩⟩
  · have : i = 0 ∨ i = 1 ∨ i = 2 ∨ i = 3 ∨ i = 4 := by omega
    rcases this with rfl | rfl | rfl | rfl | rfl <;> (unfold okg; decide)
  · obtain rfl : i = 0 := by omega
    decide
theorem tny_out : otl tnyG [4] [3, 4] 1 = [19] := by decide
theorem rd_of1 (w : World) {x : Int} (hx : 0 ≤ x ∧ x ≤ 18446744073709551615) : Rd (w.alloc (.cells #[.int .u64 x] 37)) (some ⟨w.heap.size, 0, none⟩) 1 1 [x] :=
  (show Blk (w.alloc (.cells #[.int .u64 x] 37)) w.heap.size [x] from heap_alloc_new w _).whole 1 rfl (by unfold maxLen; omega) (by
    intro u hu
    simp only [List.mem_cons, List.not_mem_nil, or_false] at hu
    subst hu; assumption)

/-- Numbers that are made, all 0. -/
def mkd (w : World) (l : Nat) : World := w.alloc (.cells (madeCells (Value.int .u64 0).cells (l * 1)) 37)
theorem mkd_run (l : Nat) (hl : l ≤ 1000) (w : World) : (Instr.makeSlice 34 (.int .i64 (l : Int)) (.int .i64 (l : Int))).run Tryd.prog w = .ok (.slice (some ⟨w.heap.size, 0, none⟩) l l) (mkd w l) := by
  obtain ⟨i0, hi, hz0, hz1, hz2⟩ := info_parts info37
  rw [run_make (w := w) 34 37 i0 _ Tryd.underlying34 hi hz0 .i64 .i64 _ _ (by omega) (by omega) (by rw [hz2]; omega) (by omega), hz1, Int.toNat_natCast]
  rfl
theorem mkd_blk (l : Nat) (hl : l ≤ 1000) (w : World) : Blk (mkd w l) w.heap.size (List.replicate l 0) := by
  obtain ⟨i0, hi, hz0, hz1, hz2⟩ := info_parts info37
  obtain ⟨w', e, hown, _⟩ := run_make_full (w := w) w.heap.size 34 37 i0 _ 1 Tryd.underlying34 hi hz0 hz1 .i64 .i64 l (by rw [hz2]; omega) (by unfold maxLen; omega) (Nat.le_refl _)
  rw [mkd_run l hl w] at e
  cases e
  exact Blk.made hown
theorem mkd_below (w : World) (l : Nat) : Below w.heap.size w (mkd w l) := below_one _ _
/-- The sum of both, number by number. -/
def smf (X Y : List Int) (i : Nat) : Int := nm (X.getD i 0 + Y.getD i 0)

/-- Run, where nothing is wrong. -/
theorem cRunOK (ag : Option Addr) (n cg : Nat) (G : List Gt) (ao : Option Addr) (m co : Nat) (O : List Int) (ai : Option Addr) (q ca : Nat) (ins : List Int) (w : World) (h : RdG w ag n cg G) (g : RdI w ao m co O) (ih : Rd w ai q ca ins) (hq : Cre G O n m q 0) (hS : Shp w) :
    Calls Tryd.prog 10 #[.agg #[.slice ag n cg, .slice ao m co], .slice ai q ca] w fun e w' => ∃ a c, e = .returned (.tuple #[.slice a m c, .int .i64 0]) ∧ Rd w' a m c (otl G O ins m) ∧ Below w.heap.size w w' := by
  refine (cRun _ _ _ _ _ _ _ _ _ _ _ _ _ h g ih hS).mono ?_
  rintro e w1 ⟨⟨r, hr, hE, rfl⟩ | ⟨hE, v, rfl, hown⟩, hb⟩
  · exact absurd (hE.one hq) hr
  · obtain ⟨a, c, rfl, hr, _⟩ := Rd.own hown (bd_u64 (otl_bd G O ins m))
    exact ⟨_, _, rfl, hr, hb⟩
theorem smf_sums {G : List Gt} {O X Y : List Int} {n m l : Nat} (hG : okG G n) (hO : okO O n m) (hl : ci G n = l) (hno : ∀ i, i < n → (gt G i).k ≠ 5) (k : Nat) (hk : k < m) :
    nm ((otl G O (fil (smf X Y) l l) m).getD k 0 + (otl G O (List.replicate l 0) m).getD k 0) = nm ((otl G O X m).getD k 0 + (otl G O Y m).getD k 0) := by
  rw [otl_getD _ _ _ hk, otl_getD _ _ _ hk, otl_getD _ _ _ hk, otl_getD _ _ _ hk]
  have := hO k hk
  refine sums hG hno (fun j hj => ?_) (fun j => ?_) _ (by omega)
  · rw [fil_full, ← hl]
    simp [hj, smf, nm_nm]
  · have e : (List.replicate l (0 : Int)).getD j 0 = 0 := by
      by_cases h : j < l
      · simp [h]
      · simp [h]
    rw [e]
    rfl

theorem circuitSumsW (ag : Option Addr) (n cg : Nat) (G : List Gt) (ao : Option Addr) (m co : Nat) (O : List Int) (a1 : Option Addr) (n1 c1 : Nat) (xs : List Int) (a2 : Option Addr) (n2 c2 : Nat) (ys : List Int) (w : World) (h : RdG w ag n cg G) (g : RdI w ao m co O) (h1 : Rd w a1 n1 c1 xs) (h2 : Rd w a2 n2 c2 ys) (hS : Shp w) :
    Calls Tryd.prog 4 #[.agg #[.slice ag n cg, .slice ao m co], .slice a1 n1 c1, .slice a2 n2 c2] w fun e w' => e = .returned (.bool true) ∧ Below w.heap.size w w' := by
  have hC0 := CBox.new w ag n cg ao m co
  have hb0 : Below w.heap.size w (w.alloc (.cells #[.slice ag n cg, .slice ao m co] 25)) := (Below.refl _ _).alloc (Nat.le_refl _) _
  go_enter Tryd.func4, Tryd.ntmps4
  go_wp2_with fail
  generalize w.alloc (.cells #[.slice ag n cg, .slice ao m co] 25) = w0 at *
  refine (kTiny _).mono ?_
  rintro e w1 ⟨ta, tb, rfl, tG, tO, hb1⟩
  have hbS := below_one w1 (.cells #[.int .u64 3, .int .u64 4] 37)
  have r1 := rd_of2 w1 (x := 3) (y := 4) (by omega) (by omega)
  have tG1 := tG.below hbS
  have tO1 := tO.below hbS
  have hC1 := (hC0.below hb1 hC0.lt).below hbS (hC0.below hb1 hC0.lt).lt
  have hbw1 := hb0.trans ((hb1.trans (hbS.mono hb1.size)).mono hb0.size)
  have hS1 := hS.below hbw1
  clear tG tO hC0 hb0 hb1 hbS
  go_wp2_with fail
  generalize w1.alloc (.cells #[.int .u64 3, .int .u64 4] 37) = w2 at *
  refine (cRun _ _ _ _ _ _ _ _ _ _ _ _ _ tG1 tO1 r1 hS1).mono ?_
  rintro e w3 ⟨⟨r, hr, hE, rfl⟩ | ⟨hE, v, rfl, hown⟩, hb3⟩
  · exact absurd (hE.one tny_run) hr
  rw [tny_out] at hown
  obtain ⟨a3, c3, rfl, hr3, _⟩ := Rd.own hown (by intro x hx; simp at hx; omega)
  have hC3 := hC1.below hb3 hC1.lt
  have hbw3 := hbw1.trans (hb3.mono hbw1.size)
  have hbS := below_one w3 (.cells #[.int .u64 19] 37)
  have r19 := rd_of1 w3 (x := 19) (by omega)
  have hr4 := hr3.below hbS
  have hC4 := hC3.below hbS hC3.lt
  have hbw4 := hbw3.trans (hbS.mono hbw3.size)
  clear hS1 tG1 tO1 r1 hE hown hb3 hC1 hbw1 hbS hr3 hC3 hbw3
  go_wp2_with fail
  generalize w3.alloc (.cells #[.int .u64 19] 37) = w4 at *
  refine (cSame _ _ _ _ _ _ _ _ hr4 r19).mono ?_
  rintro e w5 ⟨rfl, hb5⟩
  have hC5 := hC4.below hb5 hC4.lt
  have hbw5 := hbw4.trans (hb5.mono hbw4.size)
  obtain ⟨d0, d1⟩ := hC5.cells
  clear hr4 r19 hC4 hb5 hbw4
  go_wp2_with fail
  refine (cInputs _ _ _ _ _ _ _ _ _ (h.below hbw5) (g.below hbw5) (hS.below hbw5)).mono ?_
  rintro e w6 ⟨⟨r, hr, hE, rfl⟩ | ⟨hE, v, rfl, hown⟩, hb6⟩
  · have hbw6 := hbw5.trans (hb6.mono hbw5.size)
    have hrb := hE.bd
    have hrn : (r != 0) = true := by rw [bne_iff_ne]; exact hr
    clear hE hb6 hbw5 d0 d1 hC5
    go_wp2
    go_ret
    exact ⟨rfl, hbw6⟩
  · have HE : Hid (Cke G O n m 0) := hE
    have hn := hE.ok.1
    have hm := hE.ok.2.1
    have HG : Hid (okG G n) := hE.ok.2.2.1
    have HO : Hid (okO O n m) := hE.ok.2.2.2
    have hl : ci G n ≤ n := ci_le G n
    obtain ⟨l, HL⟩ : ∃ l, Hid (ci G n = l) := ⟨_, rfl⟩
    rw [HL.out] at hown hl
    obtain ⟨a6, c6, rfl, hr6⟩ := RdI.own hown (whl_bd (fun i hi => (h.bd i hi).2.1) n (Nat.le_refl _))
    have hc6 := hr6.cap
    have hm6 := hr6.max
    unfold maxLen at hm6
    have hC6 := hC5.below hb6 hC5.lt
    have hbw6 := hbw5.trans (hb6.mono hbw5.size)
    obtain ⟨f0, f1⟩ := hC6.cells
    clear hE hown hr6 hC5 hb6 hbw5 d0 d1
    go_wp2_with fail
    refine (kContMul _ _ _ _ _ (h.below hbw6)).mono ?_
    rintro e w7 ⟨⟨rfl, hno⟩ | rfl, hb7⟩
    · have HNo : Hid (∀ i, i < n → (gt G i).k ≠ 5) := hno
      have hC7 := hC6.below hb7 hC6.lt
      have hbw7 := hbw6.trans (hb7.mono hbw6.size)
      clear hno hC6 hb7 hbw6 f0 f1
      go_wp2_with fail
      refine (kFilledL _ _ _ _ l _ (h1.below hbw7) (by omega)).mono ?_
      rintro e w8 ⟨g8, rfl, r8, hb8⟩
      have hbw8 := hbw7.trans (hb8.mono hbw7.size)
      have hC8 := hC7.below hb8 hC7.lt
      clear hC7 hbw7 hb8
      go_wp2_with fail
      refine (kFilledL _ _ _ _ l _ (h2.below hbw8) (by omega)).mono ?_
      rintro e w9 ⟨g9, rfl, ry, hb9⟩
      have hbw9 := hbw8.trans (hb9.mono hbw8.size)
      have hC9 := hC8.below hb9 hC8.lt
      have rx := r8.below hb9
      obtain ⟨X, HX⟩ : ∃ X, Hid (padded xs l = X) := ⟨_, rfl⟩
      obtain ⟨Y, HY⟩ : ∃ Y, Hid (padded ys l = Y) := ⟨_, rfl⟩
      rw [HX.out] at rx
      rw [HY.out] at ry
      have hmk := mkd_run l (by omega)
      have hB0 : Blk (mkd w9 l) w9.heap.size (fil (smf X Y) l 0) := by rw [← fil_zero]; exact mkd_blk l (by omega) w9
      have hbA := mkd_below w9 l
      have hs9 := hbw9.size
      have hlt9 := hC9.lt
      clear r8 hbw8 hC8 hb9
      go_wp2
      go_loopw [62] (fun i wr => ∃ k : Nat, k ≤ l ∧ i = .int .i64 k ∧ Blk wr w9.heap.size (fil (smf X Y) l k) ∧ Below w9.heap.size w9 wr) (fun i _ => l - (intOf i).toNat)
      case atStart => exact ⟨0, Nat.zero_le _, rfl, hB0, hbA⟩
      case round =>
        clear hB0 hbA
        obtain ⟨k, hk, rfl, hblk, hbel⟩ := hrel
        by_cases hlt : k < l
        · obtain ⟨b1, o1, x, ex, hb1, HX1, hx0, hx1, hcx⟩ := (rx.below hbel).one hlt
          obtain ⟨b2, o2, y, ey, hb2, HY1, hy0, hy1, hcy⟩ := (ry.below hbel).one hlt
          simp only [Option.some.injEq, Addr.mk.injEq, and_true] at ex ey
          obtain ⟨rfl, rfl⟩ := ex
          obtain ⟨rfl, rfl⟩ := ey
          have hcell := hblk.cell (i := k) (by rw [fil_len]; exact hlt)
          have hfz := hblk.frozen k
          have hk0 : (0 : Int) ≤ (k : Int) := by omega
          have hkn : (k : Int) < (l : Int) := by omega
          have Hblk' : Hid (Blk (wr.setCell ⟨w9.heap.size, k, none⟩ (.int .u64 (nm (x + y)))) w9.heap.size (fil (smf X Y) l (k + 1))) := by
            have := hblk.set k (nm (x + y))
            rw [fil_set (by unfold smf; rw [HX1.out, HY1.out])] at this
            exact this
          have Hb' : Hid (Below w9.heap.size w9 (wr.setCell ⟨w9.heap.size, k, none⟩ (.int .u64 (nm (x + y)))).drew) := (hbel.setCell (p := ⟨w9.heap.size, k, none⟩) (Nat.le_refl _) _).drew
          clear hblk hbel
          rw [Nat.zero_add] at hcx hcy
          go_wp2
          go_region_with (go_at_call 16; refine (fAdd _ _ _ (by omega) (by omega) (by omega) (by omega)).mono ?_; rintro e w' ⟨rfl, rfl⟩)
          all_goals
            go_wp2
            go_roundw
            case rel => exact ⟨k + 1, by omega, by go_num, Hblk'.out, Hb'.out⟩
            case measure => simp [intOf]; omega
        · obtain rfl : l = k := by omega
          have rs : Rd wr (some ⟨w9.heap.size, 0, none⟩) l l (fil (smf X Y) l l) := hblk.whole l (fil_len _ _ _).symm (by unfold maxLen; omega) (bd_u64 (fil_bd (fun i => nm_bd _) _ _))
          have hCB := hC9.below hbel hlt9
          have hbwB := hbw9.trans (hbel.mono hs9)
          have rxB := rx.below hbel
          have ryB := ry.below hbel
          have HQ : Hid (Cre G O n m l 0) := .inr ⟨HE.out, .inr ⟨HL.out.symm, rfl⟩⟩
          have HV : Hid (∀ k, k < m → nm ((otl G O (fil (smf X Y) l l) m).getD k 0 + (otl G O (List.replicate l 0) m).getD k 0) = nm ((otl G O X m).getD k 0 + (otl G O Y m).getD k 0)) := smf_sums HG.out HO.out HL.out HNo.out
          obtain ⟨S, HS⟩ : ∃ S, Hid (fil (smf X Y) l l = S) := ⟨_, rfl⟩
          have HV2 : Hid (∀ k, k < m → nm ((otl G O S m).getD k 0 + (otl G O (List.replicate l 0) m).getD k 0) = nm ((otl G O X m).getD k 0 + (otl G O Y m).getD k 0)) := by rw [← HS.out]; exact HV.out
          rw [HS.out] at rs
          obtain ⟨wB, hwB⟩ : ∃ wB, wB = wr := ⟨_, rfl⟩
          subst hwB
          obtain ⟨d0, d1⟩ := hCB.cells
          clear hblk hbel hC9 rx ry hbw9 HV hs9 hlt9
          go_wp2_with fail
          refine (cRunOK _ _ _ _ _ _ _ _ _ _ _ _ _ (h.below hbwB) (g.below hbwB) rxB HQ.out (hS.below hbwB)).mono ?_
          rintro e wC ⟨ap, cp, rfl, rp, hbC⟩
          have hCC := hCB.below hbC hCB.lt
          have hbwC := hbwB.trans (hbC.mono hbwB.size)
          have ryC := ryB.below hbC
          have rsC := rs.below hbC
          obtain ⟨e0, e1⟩ := hCC.cells
          clear hCB hbwB rxB ryB rs hbC d0 d1
          go_wp2_with fail
          refine (cRunOK _ _ _ _ _ _ _ _ _ _ _ _ _ (h.below hbwC) (g.below hbwC) ryC HQ.out (hS.below hbwC)).mono ?_
          rintro e wD ⟨aq, cq, rfl, rq, hbD⟩
          have hCD := hCC.below hbD hCC.lt
          have hbwD := hbwC.trans (hbD.mono hbwC.size)
          have rpD := rp.below hbD
          have rsD := rsC.below hbD
          obtain ⟨d0, d1⟩ := hCD.cells
          clear hCC hbwC ryC rsC hbD e0 e1 rp
          go_wp2_with fail
          refine (cRunOK _ _ _ _ _ _ _ _ _ _ _ _ _ (h.below hbwD) (g.below hbwD) rsD HQ.out (hS.below hbwD)).mono ?_
          rintro e wE ⟨ar, cr, rfl, rr, hbE⟩
          have hCE := hCD.below hbE hCD.lt
          have hbwE := hbwD.trans (hbE.mono hbwD.size)
          have rpE := rpD.below hbE
          have rqE := rq.below hbE
          obtain ⟨e0, e1⟩ := hCE.cells
          have hltE := hCE.lt
          have hbM : Below wE.heap.size wE (mkd wE.drew l) := (Below.refl _ _).drew.trans (mkd_below wE.drew l)
          have hbwM := hbwE.trans (hbM.mono hbwE.size)
          have hCM := hCE.below hbM hltE
          obtain ⟨m0, m1⟩ := hCM.cells
          have HMG := h.below hbwM
          have HMO := g.below hbwM
          have HMS := hS.below hbwM
          have HMZ : Hid (Rd (mkd wE.drew l) (some ⟨wE.heap.size, 0, none⟩) l l (List.replicate l 0)) := (mkd_blk l (by omega) wE.drew).whole l (by simp) (by unfold maxLen; omega) (by intro x hx; rw [List.eq_of_mem_replicate hx]; omega)
          have rpM := rpE.below hbM
          have rqM := rqE.below hbM
          have rrM := rr.below hbM
          clear hCD hbwD rpD rsD rq hbE d0 d1 hCE hbwE rpE rqE rr hbM hCM
          go_wp2
          go_region_with (go_at_call 10; refine (cRunOK _ _ _ _ _ _ _ _ _ _ _ _ _ (by exact HMG) (by exact HMO) (by exact HMZ.out) HQ.out (by exact HMS)).mono ?_; rintro e wF ⟨az, cz, rfl, rz, hbF⟩; have rp := rpM.below hbF; have rq := rqM.below hbF; have rr := rrM.below hbF; have hbwF := hbwM.trans (hbF.mono hbwM.size); clear hbF)
          all_goals
            clear HMS HMG HMO HMZ rpM rqM rrM hbwM m0 m1 e0 e1 hltE hmk
            go_wp2
            go_loopw [120] (fun i wr => ∃ k : Nat, k ≤ m ∧ i = .int .i64 k ∧ Below wF.heap.size wF wr) (fun i _ => m - (intOf i).toNat)
            case atStart => exact ⟨0, Nat.zero_le _, rfl, Below.refl _ _⟩
            case round =>
              obtain ⟨k, hk, rfl, hbel⟩ := hrel
              by_cases hlt : k < m
              · obtain ⟨b1, o1, u1, rfl, hb1, H1, hu1, hv1, hc1⟩ := (rp.below hbel).one hlt
                obtain ⟨b2, o2, u2, rfl, hb2, H2, hu2, hv2, hc2⟩ := (rq.below hbel).one hlt
                obtain ⟨b3, o3, u3, rfl, hb3, H3, hu3, hv3, hc3⟩ := (rr.below hbel).one hlt
                obtain ⟨b4, o4, u4, rfl, hb4, H4, hu4, hv4, hc4⟩ := (rz.below hbel).one hlt
                have HEQ : nm (u3 + u4) = nm (u1 + u2) := by
                  have := HV2.out k hlt
                  rwa [H1.out, H2.out, H3.out, H4.out] at this
                have hk0 : (0 : Int) ≤ (k : Int) := by omega
                have hkn : (k : Int) < (m : Int) := by omega
                go_wp2
                go_quiet ((go_at_call 16; exact Calls.quiet_of_same (fAdd _ _ _ (by omega) (by omega) (by omega) (by omega))))
                all_goals
                  go_wp2
                  go_roundw
                  case rel => exact ⟨k + 1, by omega, by go_num, drewN_below hbel _⟩
                  case measure => simp [intOf]; omega
              · obtain rfl : m = k := by omega
                have hbwG := hbwF.trans (hbel.mono hbwF.size)
                go_wp2
                go_ret
                exact ⟨rfl, hbwG⟩
    · have hbw7 := hbw6.trans (hb7.mono hbw6.size)
      clear hC6 hb7 hbw6 f0 f1
      go_wp2
      go_ret
      exact ⟨rfl, hbw7⟩
end
end Go.Proofs.YtljlioglpaogdafDoor
