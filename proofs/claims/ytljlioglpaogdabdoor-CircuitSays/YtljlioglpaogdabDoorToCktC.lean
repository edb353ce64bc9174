/- Package circuit: Check. · Package circuit: Inputs, reckon, Run. -/
import Derived.Test.YtljlioglpaogdabDoorGRightC
import Derived.Test.YtljlioglpaogdabDoorCkDef
import Derived.Test.YtljlioglpaogdabDoorToWhoseC
import Derived.Test.YtljlioglpaogdabDoorToShamirM
import Derived.Test.YtljlioglpaogdabDoorToEqIC
import Derived.Test.YtljlioglpaogdabDoorToDigC
import Derived.Deep.RegionWith
namespace Go.Proofs.YtljlioglpaogdabDoor
set_option linter.unusedVariables false
set_option maxRecDepth 100000
set_option maxHeartbeats 8000000
section
open Crm Go.RowKit
theorem cGateRightY (k x y z : Int) (i : Nat) (w : World) (h : okg i ⟨k, x, y, z⟩) (hk : -9223372036854775808 ≤ k ∧ k ≤ 9223372036854775807) (hx : -9223372036854775808 ≤ x ∧ x ≤ 9223372036854775807) (hy : -9223372036854775808 ≤ y ∧ y ≤ 9223372036854775807) (hz : 0 ≤ z ∧ z ≤ 18446744073709551615) (hS : Shp w) :
    Calls Tryd.prog 22 #[.agg #[.int .i64 k, .int .i64 x, .int .i64 y, .int .u64 z], .int .i64 i] w fun e w' => e = .returned (.bool true) ∧ Below w.heap.size w w' := by
  refine (cGateRight k x y z i w hk hx hy hz hS).mono ?_
  rintro e w' ⟨⟨_, rfl⟩ | ⟨h', _⟩, hb⟩
  · exact ⟨rfl, hb⟩
  · exact absurd h h'
theorem cGateRightN (k x y z : Int) (i : Nat) (w : World) (h : ¬ okg i ⟨k, x, y, z⟩) (hk : -9223372036854775808 ≤ k ∧ k ≤ 9223372036854775807) (hx : -9223372036854775808 ≤ x ∧ x ≤ 9223372036854775807) (hy : -9223372036854775808 ≤ y ∧ y ≤ 9223372036854775807) (hz : 0 ≤ z ∧ z ≤ 18446744073709551615) (hS : Shp w) :
    Calls Tryd.prog 22 #[.agg #[.int .i64 k, .int .i64 x, .int .i64 y, .int .u64 z], .int .i64 i] w fun e w' => e = .returned (.bool false) ∧ Below w.heap.size w w' := by
  refine (cGateRight k x y z i w hk hx hy hz hS).mono ?_
  rintro e w' ⟨⟨h', _⟩ | ⟨_, rfl⟩, hb⟩
  · exact absurd h' h
  · exact ⟨rfl, hb⟩

theorem cCheckC (ag : Option Addr) (n cg : Nat) (G : List Gt) (ao : Option Addr) (m co : Nat) (O : List Int) (w : World) (h : RdG w ag n cg G) (g : RdI w ao m co O) (hS : Shp w) :
    Calls Tryd.prog 11 #[.agg #[.slice ag n cg, .slice ao m co]] w fun e w' => ∃ r, e = .returned (.int .i64 r) ∧ Cke G O n m r ∧ Below w.heap.size w w' := by
  have hcap := h.cap
  have hmax := h.max
  have gcap := g.cap
  have gmax := g.max
  unfold maxLen at hmax gmax
  have hC0 := CBox.new w ag n cg ao m co
  have hb0 : Below w.heap.size w (w.alloc (.cells #[.slice ag n cg, .slice ao m co] 25)) := (Below.refl _ _).alloc (Nat.le_refl _) _
  obtain ⟨d0, d1⟩ := hC0.cells
  go_enter Tryd.func11, Tryd.ntmps11
  go_upto_region 1 with fail
  generalize w.alloc (.cells #[.slice ag n cg, .slice ao m co] 25) = w0 at *
  have hl0 := hC0.lt
  by_cases hn0 : n = 0
  · have HE : Hid (Cke G O n m 1) := .inl ⟨.inl hn0, rfl⟩
    have hnb : ((n : Int) == 0) = true := by rw [beq_iff_eq]; omega
    clear hn0
    go_wp2
    go_ret
    exact ⟨1, rfl, HE.out, hb0⟩
  · have hnb : ((n : Int) == 0) = false := by rw [beq_eq_false_iff_ne]; omega
    by_cases hm0 : m = 0
    · have HE : Hid (Cke G O n m 1) := .inl ⟨.inr hm0, rfl⟩
      have hmb : ((m : Int) == 0) = true := by rw [beq_iff_eq]; omega
      clear hm0 hn0
      go_wp2
      go_ret
      exact ⟨1, rfl, HE.out, hb0⟩
    · have hmb : ((m : Int) == 0) = false := by rw [beq_eq_false_iff_ne]; omega
      by_cases hn30 : 30 < n
      · have HE : Hid (Cke G O n m 2) := .inr ⟨⟨hn0, hm0⟩, .inl ⟨.inl hn30, rfl⟩⟩
        clear hm0 hn0
        go_wp2
        go_ret
        exact ⟨2, rfl, HE.out, hb0⟩
      · by_cases hm30 : 30 < m
        · have HE : Hid (Cke G O n m 2) := .inr ⟨⟨hn0, hm0⟩, .inl ⟨.inr hm30, rfl⟩⟩
          clear hm0 hn0
          go_wp2
          go_ret
          exact ⟨2, rfl, HE.out, hb0⟩
        · have HB1 : Hid (¬ (okG G n ∧ okO O n m) → Cke G O n m 1) := fun e => .inr ⟨⟨hn0, hm0⟩, .inr ⟨⟨by omega, by omega⟩, .inl ⟨e, rfl⟩⟩⟩
          have HB0 : Hid ((okG G n ∧ okO O n m) → Cke G O n m 0) := fun e => .inr ⟨⟨hn0, hm0⟩, .inr ⟨⟨by omega, by omega⟩, .inr ⟨e, rfl⟩⟩⟩
          clear hm0 hn0
          go_wp2
          go_loopw [30] (fun v wr => ∃ i : Nat, i ≤ n ∧ v = .int .i64 i ∧ Hid (okG G i) ∧ CBox wr w.heap.size ag n cg ao m co ∧ Below w.heap.size w wr) (fun v _ => n - (intOf v).toNat)
          case atStart => exact ⟨0, Nat.zero_le _, rfl, okG_zero G, hC0, hb0⟩
          case round =>
            clear hC0 hb0 d0 d1 hl0
            obtain ⟨i, hi, rfl, HK, hC, hbel⟩ := hrel
            obtain ⟨d0, d1⟩ := hC.cells
            have hl0 := hC.lt
            have hs1 := hbel.size
            by_cases hlt : i < n
            · obtain ⟨b, o, k, x, y, z, rfl, hbb, HG, hk, hx, hy, hz, c1, c2, c3, c4⟩ := (h.below hbel).one hlt
              have hbA0 : Below wr.heap.size wr (wr.alloc (.cells #[.int .i64 k, .int .i64 x, .int .i64 y, .int .u64 z] 43)) := (Below.refl _ _).alloc (Nat.le_refl _) _
              have hbA := hbel.trans (hbA0.mono hs1)
              have hCA := hC.below hbA0 hC.lt
              obtain ⟨q1, q2, q3, q4⟩ := gate_box wr k x y z 43
              have hltA : wr.heap.size < (wr.alloc (.cells #[.int .i64 k, .int .i64 x, .int .i64 y, .int .u64 z] 43)).heap.size := by simp
              go_upto_region 8 with fail
              generalize wr.alloc (.cells #[.int .i64 k, .int .i64 x, .int .i64 y, .int .u64 z] 43) = W at *
              clear c1 c2 c3 c4 hbA0 hC hbel d0 d1
              have hSA := hS.below hbA
              by_cases hok : okg i ⟨k, x, y, z⟩
              · have HN : Hid (okG G (i + 1)) := okG_succ HK.out (by rw [HG.out]; exact hok)
                have HOK : Hid (okg i ⟨k, x, y, z⟩) := hok
                clear hok HG
                go_wp2_with (first | (go_at_call 22; refine (cGateRightY _ _ _ _ i _ HOK.out hk hx hy hz hSA).mono ?_; rintro e w2 ⟨rfl, hb2⟩; have hCB := hCA.below hb2 hCA.lt; have hbB := hbA.trans (hb2.mono hbA.size); clear hCA hbA hSA hb2 q1 q2 q3 q4))
                go_roundw
                case rel => exact ⟨i + 1, by omega, by go_num, HN, hCB, hbB⟩
                case measure => simp [intOf]; omega
              · have HN : Hid (Cke G O n m 1) := HB1.out fun e' => okG_not hlt (by rw [HG.out]; exact hok) e'.1
                have HOK : Hid (¬ okg i ⟨k, x, y, z⟩) := hok
                clear hok HG
                go_wp2_with (first | (go_at_call 22; refine (cGateRightN _ _ _ _ i _ HOK.out hk hx hy hz hSA).mono ?_; rintro e w2 ⟨rfl, hb2⟩; have hbB := hbA.trans (hb2.mono hbA.size); clear hCA hbA hSA hb2 q1 q2 q3 q4))
                go_ret
                exact ⟨1, rfl, HN.out, hbB⟩
            · have hin : i = n := by omega
              subst hin
              go_wp2
              obtain ⟨wo, hwo⟩ : ∃ x, x = wr := ⟨_, rfl⟩
              subst hwo
              go_loopw [43] (fun v wr => ∃ j : Nat, j ≤ m ∧ v = .int .i64 j ∧ Hid (okO O i j) ∧ wr = wo) (fun v _ => m - (intOf v).toNat)
              case atStart => exact ⟨0, Nat.zero_le _, rfl, okO_zero O i, rfl⟩
              case round =>
                obtain ⟨j, hj, rfl, HJ, hw⟩ := hrel
                subst hw
                by_cases hltj : j < m
                · obtain ⟨b2, o2, x, rfl, hbb2, HX, hx0, hx1, c5⟩ := (g.below hbel).one hltj
                  by_cases hxr : x < 0 ∨ (i : Int) ≤ x
                  · have HxN : Hid (x < 0 ∨ (i : Int) ≤ x) := hxr
                    have HN : Hid (Cke G O i m 1) := HB1.out fun e' => okO_not hltj HX.out hxr e'.2
                    go_wp2_with (first | (go_at_call 23; refine (cAheadN _ _ _ HxN.out).mono ?_; rintro e w' ⟨rfl, hw⟩; have hw := hw.symm; subst hw))
                    go_ret
                    exact ⟨1, rfl, HN.out, hbel⟩
                  · have HxY : Hid (0 ≤ x ∧ x < (i : Int)) := ⟨by omega, by omega⟩
                    have HN : Hid (okO O i (j + 1)) := okO_succ HJ.out HX.out (by omega) (by omega)
                    go_wp2_with (first | (go_at_call 23; refine (cAheadY _ _ _ HxY.out.1 HxY.out.2).mono ?_; rintro e w' ⟨rfl, hw⟩; have hw := hw.symm; subst hw))
                    go_roundw
                    case rel => exact ⟨j + 1, by omega, by go_num, HN, by trivial⟩
                    case measure => simp [intOf]; omega
                · have hjm : j = m := by omega
                  subst hjm
                  have HN : Hid (Cke G O i j 0) := HB0.out ⟨HK.out, HJ.out⟩
                  go_wp2
                  go_ret
                  exact ⟨0, rfl, HN.out, hbel⟩
theorem cInputs (ag : Option Addr) (n cg : Nat) (G : List Gt) (ao : Option Addr) (m co : Nat) (O : List Int) (w : World) (h : RdG w ag n cg G) (g : RdI w ao m co O) (hS : Shp w) :
    Calls Tryd.prog 8 #[.agg #[.slice ag n cg, .slice ao m co]] w fun e w' => Cin G O n m w e w' := by
  have hcap := h.cap
  have hC0 := CBox.new w ag n cg ao m co
  have hb0 : Below w.heap.size w (w.alloc (.cells #[.slice ag n cg, .slice ao m co] 25)) := (Below.refl _ _).alloc (Nat.le_refl _) _
  go_enter Tryd.func8, Tryd.ntmps8
  go_wp2_with fail
  generalize w.alloc (.cells #[.slice ag n cg, .slice ao m co] 25) = w0 at *
  refine (cCheckC _ _ _ _ _ _ _ _ _ (h.below hb0) (g.below hb0) (hS.below hb0)).mono ?_
  rintro e w1 ⟨r, rfl, hC, hb1'⟩
  have hb1 := hb0.trans (hb1'.mono hb0.size)
  have hC1 := hC0.below hb1' hC0.lt
  clear hC0 hb1' hb0
  have hrb := hC.bd
  by_cases hr : r = 0
  · subst hr
    have HC : Hid (Cke G O n m 0) := hC
    have hn := hC.ok.1
    have hs1 := hb1.size
    obtain ⟨d0, d1⟩ := hC1.cells
    have hl0 := hC1.lt
    clear hC hrb
    go_wp2
    go_loopw [5, 16] (fun v q wr => ∃ i : Nat, i ≤ n ∧ q = .int .i64 i ∧ wr.ownsRow w1.heap.size 3 1 v (ci G i) (zns (whl G i)) ∧ Below w1.heap.size w1 wr) (fun _ q _ => n - (intOf q).toNat)
    case atStart => exact ⟨0, Nat.zero_le _, rfl, World.ownsRow_nil _ _ _ _, Below.refl _ _⟩
    case round =>
      clear d0 d1
      obtain ⟨i, hi, rfl, hown, hbel⟩ := hrel
      have hCr := hC1.below hbel hC1.lt
      have hs2 := hbel.size
      by_cases hlt : i < n
      · obtain ⟨b, o, k, x, y, z, rfl, hbb, HG, hk, hx, hy, hz, c1, c2, c3, c4⟩ := (h.below (hb1.trans (hbel.mono hs1))).one hlt
        have hci := ci_le G i
        obtain ⟨N, HN⟩ : ∃ N, Hid (ci G i = N) := ⟨_, rfl⟩
        have hbA0 : Below wr.heap.size wr (wr.alloc (.cells #[.int .i64 k, .int .i64 x, .int .i64 y, .int .u64 z] 43)) := (Below.refl _ _).alloc (Nat.le_refl _) _
        have hbA := hbel.trans (hbA0.mono hs2)
        obtain ⟨q1, q2, q3, q4⟩ := gate_box wr k x y z 43
        have hltA : wr.heap.size < (wr.alloc (.cells #[.int .i64 k, .int .i64 x, .int .i64 y, .int .u64 z] 43)).heap.size := by simp
        have hownA := own_below hown hbA0
        go_upto_region 8 with fail
        generalize wr.alloc (.cells #[.int .i64 k, .int .i64 x, .int .i64 y, .int .u64 z] 43) = W at *
        clear c1 c2 c3 c4 hbA0 hbel hown
        have hsA := hbA.size
        by_cases hk1 : k = 1
        · subst hk1
          have hw := whl_in (G := G) (k := i) (x := x) (by rw [HG.out]) (by rw [HG.out])
          have HW : Hid (zns (whl G i) ++ [.int .i64 x] = zns (whl G (i + 1))) := by unfold Hid; rw [zns_snoc, hw]
          have HC2 : Hid (ci G (i + 1) = N + 1) := by unfold Hid; rw [ci_in (by rw [HG.out]), HN.out]
          rw [HN.out] at hownA hci
          clear hw
          go_wp2_with (at_builtin; refine wpList_appV Tryd.underlying23 infoZ rfl (by omega) _ rfl _ _ rfl w1.heap.size _ _ _ rfl hownA (.int .i64 x) rfl rfl (by omega) hsA ?_; intro v2 w2 hown2 hgr2 _; rw [HW.out] at hown2; have hb2 := hbA.grown hgr2 hsA (fun q hq => (hownA.lt q hq).1); clear hgr2 hownA hbA)
          go_roundw
          case rel => exact ⟨i + 1, by omega, by go_num, by rw [HC2.out]; exact hown2, hb2⟩
          case measure => simp [intOf]; omega
        · have hkb : (k == 1) = false := by rw [beq_eq_false_iff_ne]; exact hk1
          have hne : (gt G i).k ≠ 1 := by rw [HG.out]; exact hk1
          have HW : Hid (zns (whl G i) = zns (whl G (i + 1))) := by unfold Hid; rw [← whl_no hne]
          have HC2 : Hid (ci G (i + 1) = ci G i) := ci_no hne
          rw [HW.out] at hownA
          clear hne hk1 HN hci
          go_wp2
          go_roundw
          case rel => exact ⟨i + 1, by omega, by go_num, by rw [HC2.out]; exact hownA, hbA⟩
          case measure => simp [intOf]; omega
      · have hin : i = n := by omega
        subst hin
        have hoE := own_base hown hs1
        have hbE := hb1.trans (hbel.mono hs1)
        go_wp2
        go_ret2
        exact ⟨.inr ⟨HC.out, _, rfl, hoE⟩, hbE⟩
  · have HC : Hid (Cke G O n m r) := hC
    have HR : Hid (r ≠ 0) := hr
    have hrb2 : (r != 0) = true := by rw [bne_iff_ne]; exact hr
    clear hC hrb hr
    go_wp2
    go_ret2
    exact ⟨.inl ⟨_, HR.out, HC.out, rfl⟩, hb1⟩
theorem fil_getD {f : Nat → Int} {n k i : Nat} (hi : i < k) (hk : k ≤ n) : (fil f n k).getD i 0 = f i := by
  have : i < n := by omega
  simp [fil, this, hi]
theorem getD_drop (xs : List Int) (a b : Nat) : (xs.drop a).getD b 0 = xs.getD (a + b) 0 := by simp
theorem infoU1c : (Tryd.prog.info? 40).map (·.size) = some 1 := by kernel_rfl
theorem cReckon (ag : Option Addr) (n cg : Nat) (G : List Gt) (ai : Option Addr) (q ca : Nat) (ins : List Int) (w : World) (h : RdG w ag n cg G) (ih : Rd w ai q ca ins) (hn1 : 1 ≤ n) (hn : n ≤ 30) (hG : okG G n) (hq : q = ci G n) :
    Calls Tryd.prog 18 #[.slice ag n cg, .slice ai q ca] w fun e w' => ∃ g, e = .returned (.slice (some ⟨g, 0, none⟩) n n) ∧ w.heap.size ≤ g ∧ Blk w' g ((List.range n).map (wi G ins)) ∧ Below w.heap.size w w' := by
  obtain ⟨i0, hi0, hz0, hz1, hz2⟩ := info_parts info40
  have hcap := h.cap
  have HOKG : Hid (okG G n) := hG
  have hci := ci_le G n
  have HQ : Hid (q = ci G n) := hq
  clear hG hq
  go_enter Tryd.func18, Tryd.ntmps18
  go_wp2_with (at_make; refine wpList_make_full _ rfl _ _ 26 rfl w.heap.size 40 i0 (.int .u64 0) 1 Tryd.underlying26 hi0 hz0 hz1 .i64 .i64 _ _ n rfl rfl (by omega) (by omega) (by rw [hz2]; omega) (by unfold maxLen; omega) (Nat.le_refl _) ?_; intro w2 hown hgrow)
  have hB2 : Blk w2 w.heap.size (fil (wi G ins) n 0) := by rw [← fil_zero]; exact Blk.made hown
  have hb2 : Below w.heap.size w w2 := (Below.refl _ _).grown hgrow (Nat.le_refl _) (by simp)
  clear hown hgrow
  go_loopw [1, 13] (fun u v wr => ∃ (i : Nat) (a' : Option Addr) (c' : Nat), i ≤ n ∧ v = .int .i64 i ∧ u = .slice a' (q - ci G i) c' ∧ Rd w a' (q - ci G i) c' (ins.drop (ci G i)) ∧ Blk wr w.heap.size (fil (wi G ins) n i) ∧ Below w.heap.size w wr) (fun _ v _ => n - (intOf v).toNat)
  case atStart => exact ⟨0, ai, ca, Nat.zero_le _, rfl, by rw [ci_zero]; rfl, by rw [ci_zero]; simpa using ih, hB2, hb2⟩
  case round =>
    clear hB2 hb2
    obtain ⟨i, a', c', hi, rfl, rfl, hR, hblk, hbel⟩ := hrel
    by_cases hlt : i < n
    · obtain ⟨b, o, k, x, y, z, rfl, hbb, HG, hk, hx, hy, hz, c1, c2, c3, c4⟩ := (h.below hbel).one hlt
      have hs1 := hbel.size
      have hbA0 : Below wr.heap.size wr (wr.alloc (.cells #[.int .i64 k, .int .i64 x, .int .i64 y, .int .u64 z] 43)) := (Below.refl _ _).alloc (Nat.le_refl _) _
      have hbA := hbel.trans (hbA0.mono hs1)
      obtain ⟨q1, q2, q3, q4⟩ := gate_box wr k x y z 43
      have hltA : wr.heap.size < (wr.alloc (.cells #[.int .i64 k, .int .i64 x, .int .i64 y, .int .u64 z] 43)).heap.size := by simp
      have hblkA := hblk.below hbA0 hblk.lt
      have hok := HOKG.out i hlt
      have HGk : Hid ((gt G i).k = k) := by unfold Hid; rw [HG.out]
      have HGx : Hid ((gt G i).a = x) := by unfold Hid; rw [HG.out]
      have HGy : Hid ((gt G i).b = y) := by unfold Hid; rw [HG.out]
      have HGz : Hid ((gt G i).n = z) := by unfold Hid; rw [HG.out]
      rw [HG.out] at hok
      have hne : w.heap.size ≠ wr.heap.size := Nat.ne_of_lt hblk.lt
      go_upto_region 5 with fail
      generalize wr.alloc (.cells #[.int .i64 k, .int .i64 x, .int .i64 y, .int .u64 z] 43) = W at *
      clear c1 c2 c3 c4 hbA0 hbel hblk HG
      have hcell := hblkA.cell (i := i) (by rw [fil_len]; exact hlt)
      have hfz := hblkA.frozen i
      have hlt3 := hblkA.lt
      have hi0' : (0 : Int) ≤ (i : Int) := by omega
      have hin' : (i : Int) < (n : Int) := by omega
      rcases hok with ⟨e, _, _, _⟩ | ⟨e, _, _⟩ | ⟨e, hxi, _⟩ | ⟨e, hxi, hyi, _⟩
      · obtain rfl : k = 1 := e
        have hcl : ci G i < q := by rw [HQ.out]; exact ci_lt hlt HGk.out
        have HV : Hid (wi G ins i = nm (ins.getD (ci G i) 0)) := wi_in HGk.out
        have HCI : Hid (ci G (i + 1) = ci G i + 1) := ci_in HGk.out
        obtain ⟨N, HN⟩ : ∃ N, Hid (ci G i = N) := ⟨_, rfl⟩
        rw [HN.out] at hR hcl ⊢
        obtain ⟨M, hM⟩ : ∃ M, q - N = M + 1 := ⟨q - N - 1, by omega⟩
        have HM : Hid (M = q - (N + 1)) := by unfold Hid; omega
        rw [hM] at hR ⊢
        obtain ⟨b5, o5, u, rfl, hbb5, HU, hu0, hu1, hcu⟩ := (hR.below hbA).one (k := 0) (by omega)
        rw [Nat.add_zero] at hcu
        obtain ⟨X, HX⟩ : ∃ X, Hid (subA (some ⟨b5, o5, none⟩) c' 1 = X) := ⟨_, rfl⟩
        have hsl : ∀ W, (Instr.sliceAt 26 (.slice (some ⟨b5, o5, none⟩) (M + 1) c') (some (.int .i64 1)) none none).run Tryd.prog W = .ok (.slice X M (c' - 1)) W := fun W => by
          rw [← HX.out]
          exact run_subl Tryd.underlying26 infoU1c (some ⟨b5, o5, none⟩) (M + 1) c' 1 rfl (by omega) W
        have hcp := hR.cap
        have hR3 := hR.sub (lo := 1) (k := M) (by omega)
        rw [HX.out] at hR3
        have HR4 : Hid (Rd w X (q - (N + 1)) (c' - 1) (ins.drop (N + 1))) := by
          unfold Hid
          rw [← HM.out]
          have e : ((ins.drop N).drop 1).take M = ins.drop (N + 1) := by
            rw [List.drop_drop, List.take_of_length_le]
            have := hR.len
            simp only [List.length_drop] at this ⊢
            omega
          rw [e] at hR3
          exact hR3
        have hset := hblkA.set i (nm u)
        rw [fil_set (by rw [HV.out, ← HU.out, getD_drop, HN.out]; rfl)] at hset
        have Hbl : Hid (Blk _ _ _) := hset
        have Hb5 : Hid (Below w.heap.size w (W.setCell ⟨w.heap.size, i, none⟩ (.int .u64 (nm u)))) := hbA.setCell (Nat.le_refl _) _
        have HE : Hid (Value.slice X M (c' - 1) = .slice X (q - (N + 1)) (c' - 1)) := by unfold Hid; rw [← HM.out]
        clear hblkA hset hR3 hbA hM hR
        go_wp2
        go_region_with (go_at_call 28; refine (fNorm _ _ (by omega) (by omega)).mono ?_; rintro e w' ⟨rfl, rfl⟩)
        all_goals
          go_wp2
          go_roundw
          case rel =>
            refine ⟨i + 1, X, c' - 1, by omega, by go_num, ?_, ?_, Hbl.out, Hb5.out.drew⟩
            · rw [HCI.out, HN.out]; exact HE.out
            · rw [HCI.out, HN.out]; exact HR4.out
          case measure => simp [intOf]; omega
      · obtain rfl : k = 2 := e
        have hv := wi_const (ins := ins) HGk.out
        rw [HGz.out] at hv

        have HV : Hid (wi G ins i = nm z) := hv
        have HCI : Hid (ci G (i + 1) = ci G i) := ci_no (by rw [HGk.out]; omega)
        have hset := hblkA.set i (nm z)
        rw [fil_set (by rw [HV.out])] at hset
        have Hbl : Hid (Blk _ _ _) := hset
        have Hb5 : Hid (Below w.heap.size w (W.setCell ⟨w.heap.size, i, none⟩ (.int .u64 (nm z)))) := hbA.setCell (Nat.le_refl _) _
        have HR4 : Hid (Rd w a' (q - ci G i) c' (ins.drop (ci G i))) := hR
        clear hblkA hset hbA hR hv
        go_wp2_with (go_at_call 28; refine (fNorm _ _ (by omega) (by omega)).mono ?_; rintro e w' ⟨rfl, hw⟩; have hw := hw.symm; subst hw)
        go_roundw
        case rel => exact ⟨i + 1, a', c', by omega, by go_num, by rw [HCI.out], by rw [HCI.out]; exact HR4.out, Hbl.out, Hb5.out⟩
        case measure => simp [intOf]; omega
      · obtain rfl : k = 6 := e
        simp only at hxi
        obtain ⟨pa, rfl⟩ : ∃ p : Nat, x = p := ⟨x.toNat, by omega⟩
        have hpa : pa < i := by omega
        have hpa0 : (0 : Int) ≤ (pa : Int) := by omega
        have hpan : (pa : Int) < (n : Int) := by omega
        have hcpa := hblkA.cell (i := pa) (by rw [fil_len]; omega)
        rw [fil_getD hpa (by omega)] at hcpa
        have hwpa := wi_bd G ins pa
        obtain ⟨vpa, HVpa⟩ : ∃ v, Hid (wi G ins pa = v) := ⟨_, rfl⟩
        rw [HVpa.out] at hcpa hwpa
        have hv := wi_scale (ins := ins) HGk.out HGx.out hpa
        rw [HGz.out] at hv
        rw [HVpa.out] at hv;
        have HV : Hid (wi G ins i = nm (vpa * z)) := hv
        have HCI : Hid (ci G (i + 1) = ci G i) := ci_no (by rw [HGk.out]; omega)
        have hset := hblkA.set i (nm (vpa * z))
        rw [fil_set (by rw [HV.out])] at hset
        have Hbl : Hid (Blk _ _ _) := hset
        have Hb5 : Hid (Below w.heap.size w (W.setCell ⟨w.heap.size, i, none⟩ (.int .u64 (nm (vpa * z))))) := hbA.setCell (Nat.le_refl _) _
        have HR4 : Hid (Rd w a' (q - ci G i) c' (ins.drop (ci G i))) := hR
        clear hblkA hset hbA hR hv
        go_wp2
        go_region_with (go_at_call 31; refine (fMul _ _ _ (by omega) (by omega) (by omega) (by omega)).mono ?_; rintro e w' ⟨rfl, rfl⟩)
        all_goals
          go_wp2
          go_roundw
          case rel => exact ⟨i + 1, a', c', by omega, by go_num, by rw [HCI.out], by rw [HCI.out]; exact HR4.out, Hbl.out, Hb5.out.drew⟩
          case measure => simp [intOf]; omega
      · simp only at hxi hyi
        rcases e with e | e | e
        · obtain rfl : k = 3 := e
          obtain ⟨pa, rfl⟩ : ∃ p : Nat, x = p := ⟨x.toNat, by omega⟩
          have hpa : pa < i := by omega
          have hpa0 : (0 : Int) ≤ (pa : Int) := by omega
          have hpan : (pa : Int) < (n : Int) := by omega
          have hcpa := hblkA.cell (i := pa) (by rw [fil_len]; omega)
          rw [fil_getD hpa (by omega)] at hcpa
          have hwpa := wi_bd G ins pa
          obtain ⟨vpa, HVpa⟩ : ∃ v, Hid (wi G ins pa = v) := ⟨_, rfl⟩
          rw [HVpa.out] at hcpa hwpa
          obtain ⟨pb, rfl⟩ : ∃ p : Nat, y = p := ⟨y.toNat, by omega⟩
          have hpb : pb < i := by omega
          have hpb0 : (0 : Int) ≤ (pb : Int) := by omega
          have hpbn : (pb : Int) < (n : Int) := by omega
          have hcpb := hblkA.cell (i := pb) (by rw [fil_len]; omega)
          rw [fil_getD hpb (by omega)] at hcpb
          have hwpb := wi_bd G ins pb
          obtain ⟨vpb, HVpb⟩ : ∃ v, Hid (wi G ins pb = v) := ⟨_, rfl⟩
          rw [HVpb.out] at hcpb hwpb
          have hv := wi_add (ins := ins) HGk.out HGx.out hpa HGy.out hpb
          rw [HVpa.out] at hv; rw [HVpb.out] at hv;
          have HV : Hid (wi G ins i = nm (vpa + vpb)) := hv
          have HCI : Hid (ci G (i + 1) = ci G i) := ci_no (by rw [HGk.out]; omega)
          have hset := hblkA.set i (nm (vpa + vpb))
          rw [fil_set (by rw [HV.out])] at hset
          have Hbl : Hid (Blk _ _ _) := hset
          have Hb5 : Hid (Below w.heap.size w (W.setCell ⟨w.heap.size, i, none⟩ (.int .u64 (nm (vpa + vpb))))) := hbA.setCell (Nat.le_refl _) _
          have HR4 : Hid (Rd w a' (q - ci G i) c' (ins.drop (ci G i))) := hR
          clear hblkA hset hbA hR hv
          go_wp2
          go_region_with (go_at_call 29; refine (fAdd _ _ _ (by omega) (by omega) (by omega) (by omega)).mono ?_; rintro e w' ⟨rfl, rfl⟩)
          all_goals
            go_wp2
            go_roundw
            case rel => exact ⟨i + 1, a', c', by omega, by go_num, by rw [HCI.out], by rw [HCI.out]; exact HR4.out, Hbl.out, Hb5.out.drew⟩
            case measure => simp [intOf]; omega
        · obtain rfl : k = 4 := e
          obtain ⟨pa, rfl⟩ : ∃ p : Nat, x = p := ⟨x.toNat, by omega⟩
          have hpa : pa < i := by omega
          have hpa0 : (0 : Int) ≤ (pa : Int) := by omega
          have hpan : (pa : Int) < (n : Int) := by omega
          have hcpa := hblkA.cell (i := pa) (by rw [fil_len]; omega)
          rw [fil_getD hpa (by omega)] at hcpa
          have hwpa := wi_bd G ins pa
          obtain ⟨vpa, HVpa⟩ : ∃ v, Hid (wi G ins pa = v) := ⟨_, rfl⟩
          rw [HVpa.out] at hcpa hwpa
          obtain ⟨pb, rfl⟩ : ∃ p : Nat, y = p := ⟨y.toNat, by omega⟩
          have hpb : pb < i := by omega
          have hpb0 : (0 : Int) ≤ (pb : Int) := by omega
          have hpbn : (pb : Int) < (n : Int) := by omega
          have hcpb := hblkA.cell (i := pb) (by rw [fil_len]; omega)
          rw [fil_getD hpb (by omega)] at hcpb
          have hwpb := wi_bd G ins pb
          obtain ⟨vpb, HVpb⟩ : ∃ v, Hid (wi G ins pb = v) := ⟨_, rfl⟩
          rw [HVpb.out] at hcpb hwpb
          have hv := wi_sub (ins := ins) HGk.out HGx.out hpa HGy.out hpb
          rw [HVpa.out] at hv; rw [HVpb.out] at hv;
          have HV : Hid (wi G ins i = nm (vpa - vpb)) := hv
          have HCI : Hid (ci G (i + 1) = ci G i) := ci_no (by rw [HGk.out]; omega)
          have hset := hblkA.set i (nm (vpa - vpb))
          rw [fil_set (by rw [HV.out])] at hset
          have Hbl : Hid (Blk _ _ _) := hset
          have Hb5 : Hid (Below w.heap.size w (W.setCell ⟨w.heap.size, i, none⟩ (.int .u64 (nm (vpa - vpb))))) := hbA.setCell (Nat.le_refl _) _
          have HR4 : Hid (Rd w a' (q - ci G i) c' (ins.drop (ci G i))) := hR
          clear hblkA hset hbA hR hv
          go_wp2
          go_region_with (go_at_call 30; refine (fSub _ _ _ (by omega) (by omega) (by omega) (by omega)).mono ?_; rintro e w' ⟨rfl, rfl⟩)
          all_goals
            go_wp2
            go_roundw
            case rel => exact ⟨i + 1, a', c', by omega, by go_num, by rw [HCI.out], by rw [HCI.out]; exact HR4.out, Hbl.out, Hb5.out.drew⟩
            case measure => simp [intOf]; omega
        · obtain rfl : k = 5 := e
          obtain ⟨pa, rfl⟩ : ∃ p : Nat, x = p := ⟨x.toNat, by omega⟩
          have hpa : pa < i := by omega
          have hpa0 : (0 : Int) ≤ (pa : Int) := by omega
          have hpan : (pa : Int) < (n : Int) := by omega
          have hcpa := hblkA.cell (i := pa) (by rw [fil_len]; omega)
          rw [fil_getD hpa (by omega)] at hcpa
          have hwpa := wi_bd G ins pa
          obtain ⟨vpa, HVpa⟩ : ∃ v, Hid (wi G ins pa = v) := ⟨_, rfl⟩
          rw [HVpa.out] at hcpa hwpa
          obtain ⟨pb, rfl⟩ : ∃ p : Nat, y = p := ⟨y.toNat, by omega⟩
          have hpb : pb < i := by omega
          have hpb0 : (0 : Int) ≤ (pb : Int) := by omega
          have hpbn : (pb : Int) < (n : Int) := by omega
          have hcpb := hblkA.cell (i := pb) (by rw [fil_len]; omega)
          rw [fil_getD hpb (by omega)] at hcpb
          have hwpb := wi_bd G ins pb
          obtain ⟨vpb, HVpb⟩ : ∃ v, Hid (wi G ins pb = v) := ⟨_, rfl⟩
          rw [HVpb.out] at hcpb hwpb
          have hv := wi_mul (ins := ins) HGk.out HGx.out hpa HGy.out hpb
          rw [HVpa.out] at hv; rw [HVpb.out] at hv;
          have HV : Hid (wi G ins i = nm (vpa * vpb)) := hv
          have HCI : Hid (ci G (i + 1) = ci G i) := ci_no (by rw [HGk.out]; omega)
          have hset := hblkA.set i (nm (vpa * vpb))
          rw [fil_set (by rw [HV.out])] at hset
          have Hbl : Hid (Blk _ _ _) := hset
          have Hb5 : Hid (Below w.heap.size w (W.setCell ⟨w.heap.size, i, none⟩ (.int .u64 (nm (vpa * vpb))))) := hbA.setCell (Nat.le_refl _) _
          have HR4 : Hid (Rd w a' (q - ci G i) c' (ins.drop (ci G i))) := hR
          clear hblkA hset hbA hR hv
          go_wp2
          go_region_with (go_at_call 31; refine (fMul _ _ _ (by omega) (by omega) (by omega) (by omega)).mono ?_; rintro e w' ⟨rfl, rfl⟩)
          all_goals
            go_wp2
            go_roundw
            case rel => exact ⟨i + 1, a', c', by omega, by go_num, by rw [HCI.out], by rw [HCI.out]; exact HR4.out, Hbl.out, Hb5.out.drew⟩
            case measure => simp [intOf]; omega
    · have hin : i = n := by omega
      subst hin
      rw [fil_full] at hblk
      go_wp2
      go_ret
      exact ⟨_, rfl, Nat.le_refl _, hblk, hbel⟩

theorem cRun (ag : Option Addr) (n cg : Nat) (G : List Gt) (ao : Option Addr) (m co : Nat) (O : List Int) (ai : Option Addr) (q ca : Nat) (ins : List Int) (w : World) (h : RdG w ag n cg G) (g : RdI w ao m co O) (ih : Rd w ai q ca ins) (hS : Shp w) :
    Calls Tryd.prog 9 #[.agg #[.slice ag n cg, .slice ao m co], .slice ai q ca] w fun e w' => Crn G O ins n m q w e w' := by
  obtain ⟨i0, hi0, hz0, hz1, hz2⟩ := info_parts info40
  have hcap := ih.cap
  have hmax := ih.max
  have gcap := g.cap
  unfold maxLen at hmax
  have hC0 := CBox.new w ag n cg ao m co
  have hb0 : Below w.heap.size w (w.alloc (.cells #[.slice ag n cg, .slice ao m co] 25)) := (Below.refl _ _).alloc (Nat.le_refl _) _
  go_enter Tryd.func9, Tryd.ntmps9
  go_wp2_with fail
  generalize w.alloc (.cells #[.slice ag n cg, .slice ao m co] 25) = w0 at *
  refine (cInputs _ _ _ _ _ _ _ _ _ (h.below hb0) (g.below hb0) (hS.below hb0)).mono ?_
  rintro e w1 ⟨hor, hb1'⟩
  have hb1 := hb0.trans (hb1'.mono hb0.size)
  have hC1 := hC0.below hb1' hC0.lt
  clear hC0 hb1'
  rcases hor with ⟨r, hr, hC, rfl⟩ | ⟨hC, v, rfl, hown⟩
  · have HC : Hid (Cke G O n m r) := hC
    have HR : Hid (r ≠ 0) := hr
    have hrb := hC.bd
    have hrb2 : (r != 0) = true := by rw [bne_iff_ne]; exact hr
    clear hC hr
    go_wp2
    go_ret2
    exact ⟨.inl ⟨_, HR.out, .inl ⟨HR.out, HC.out⟩, rfl⟩, hb1⟩
  · have HC : Hid (Cke G O n m 0) := hC
    have hn := hC.ok.1
    have hm := hC.ok.2.1
    have HOG : Hid (okG G n) := hC.ok.2.2.1
    have HO : Hid (okO O n m) := hC.ok.2.2.2
    obtain ⟨d0, d1⟩ := hC1.cells
    have hl1 := hC1.lt
    have hs1 := hb1.size
    obtain ⟨a2, c2, rfl, hr2⟩ := RdI.own hown (whl_bd (fun i hi => (h.bd i hi).2.1) n (Nat.le_refl _))
    have hcl := hr2.cap
    obtain ⟨l, HL⟩ : ∃ l, Hid (ci G n = l) := ⟨_, rfl⟩
    have hll := ci_le G n
    rw [HL.out] at hcl hll ⊢
    clear hown hr2 hC
    by_cases hq : q = l
    · have HQ : Hid (q = ci G n) := by unfold Hid; rw [HL.out]; exact hq
      subst hq
      go_wp2_with fail
      refine (cReckon _ _ _ _ _ _ _ _ _ (h.below hb1) (ih.below hb1) hn.1 hn.2 HOG.out HQ.out).mono ?_
      rintro e w2 ⟨g2, rfl, hg2, hblk, hb2'⟩
      have hb2 := hb1.trans (hb2'.mono hs1)
      have hC2 := hC1.below hb2' hC1.lt
      obtain ⟨f0, f1⟩ := hC2.cells
      have hl2 := hC2.lt
      have hs2 := hb2.size
      clear hb2' hC1 d0 d1
      go_wp2_with (at_make; refine wpList_make_full _ rfl _ _ 26 rfl w2.heap.size 40 i0 (.int .u64 0) 1 Tryd.underlying26 hi0 hz0 hz1 .i64 .i64 _ _ m rfl rfl (by omega) (by omega) (by rw [hz2]; omega) (by unfold maxLen; omega) (Nat.le_refl _) ?_; intro w3 hown hgrow; have hB3 : Blk w3 w2.heap.size (fil (fun j => wi G ins (O.getD j 0).toNat) m 0) := (by rw [← fil_zero]; exact Blk.made hown); have hb3' : Below w2.heap.size w2 w3 := (Below.refl _ _).grown hgrow (Nat.le_refl _) (by simp); have hb3 := hb2.trans (hb3'.mono hs2); have hC3 := hC2.below hb3' hl2; obtain ⟨e0, e1⟩ := hC3.cells; have hl3 := hC3.lt; have hblk3 := hblk.below hb3' hblk.lt; have hlt2 := hblk.lt; clear hown hgrow hb3' f0 f1)
      go_loopw [36] (fun v wr => ∃ j : Nat, j ≤ m ∧ v = .int .i64 j ∧ Blk wr w2.heap.size (fil (fun j => wi G ins (O.getD j 0).toNat) m j) ∧ Blk wr g2 ((List.range n).map (wi G ins)) ∧ Below w.heap.size w wr) (fun v _ => m - (intOf v).toNat)
      case atStart => exact ⟨0, Nat.zero_le _, rfl, hB3, hblk3, hb3⟩
      case round =>
        clear hB3 hblk3 hb3 e0 e1 hl3 hC3
        obtain ⟨j, hj, rfl, hB, hK, hbel⟩ := hrel
        by_cases hlt : j < m
        · obtain ⟨b5, o5, u, rfl, hbb5, HU, hu0, hu1, hcu⟩ := (g.below hbel).one hlt
          have huo := HO.out j hlt
          rw [HU.out] at huo
          obtain ⟨p, rfl⟩ : ∃ p : Nat, u = p := ⟨u.toNat, by omega⟩
          have hpn : p < n := by omega
          have hp0 : (0 : Int) ≤ (p : Int) := by omega
          have hpn' : (p : Int) < (n : Int) := by omega
          have hj0 : (0 : Int) ≤ (j : Int) := by omega
          have hjm : (j : Int) < (m : Int) := by omega
          have hck := hK.cell (i := p) (by simp; exact hpn)
          have hgv : ((List.range n).map (wi G ins)).getD p 0 = wi G ins p := by simp [hpn]
          rw [hgv] at hck
          obtain ⟨x, HX⟩ : ∃ x, Hid (wi G ins p = x) := ⟨_, rfl⟩
          rw [HX.out] at hck
          have hcell := hB.cell (i := j) (by rw [fil_len]; exact hlt)
          have hfz := hB.frozen j
          have hltB := hB.lt
          have hltK := hK.lt
          have hset := hB.set j x
          rw [fil_set (by show x = wi G ins (O.getD j 0).toNat; rw [HU.out, Int.toNat_natCast, HX.out])] at hset
          have hne : g2 ≠ w2.heap.size := Nat.ne_of_lt hlt2
          have Hbl : Hid (Blk _ _ _) := hset
          have Hkb : Hid (Blk _ _ _) := hK.grown (grown_set wr w2.heap.size j (.int .u64 x)) (fun e => hne (Option.some.inj e))
          have Hb5 : Hid (Below w.heap.size w (wr.setCell ⟨w2.heap.size, j, none⟩ (.int .u64 x))) := hbel.setCell hs2 _
          clear hB hK hset hbel hgv huo
          go_wp2
          go_roundw
          case rel => exact ⟨j + 1, by omega, by go_num, Hbl.out, Hkb.out, Hb5.out⟩
          case measure => simp [intOf]; omega
        · have hjm : j = m := by omega
          subst hjm
          rw [fil_full] at hB
          have ho : wr.ownsRow w.heap.size 40 1 (.slice (some ⟨w2.heap.size, 0, none⟩) j j) j ((otl G O ins j).map (Value.int .u64)) := ⟨by simp [otl], .inr ⟨w2.heap.size, j, _, rfl, hs2, hB, Nat.le_refl _, by unfold maxLen; omega, by simp, by rw [List.take_of_length_le (by simp)]; rfl⟩⟩
          go_wp2
          go_ret2
          exact ⟨.inr ⟨.inr ⟨HC.out, .inr ⟨HQ.out, rfl⟩⟩, _, rfl, ho⟩, hbel⟩
    · have HQ : Hid (q ≠ ci G n) := by unfold Hid; rw [HL.out]; exact hq
      go_wp2
      go_ret2
      exact ⟨.inl ⟨5, by decide, .inr ⟨HC.out, .inl ⟨HQ.out, rfl⟩⟩, rfl⟩, hb1⟩
end
end Go.Proofs.YtljlioglpaogdabDoor
