/- croftref.Weights. · croftref.Times. · (*croftref.Store).Combine, Multiply. -/
import Derived.Test.YtgmelcdgnjcojacToRefWC
import Derived.Test.YtgmelcdgnjcojacToWeightC
import Derived.Test.YtgmelcdgnjcojacToGateM
import Derived.Test.YtgmelcdgnjcojacToRStC
import Derived.Test.YtgmelcdgnjcojacToRDealC
import Derived.Test.YtgmelcdgnjcojacToRefPolyC
import Derived.Test.YtgmelcdgnjcojacToSubC
import Derived.BigQuiet
namespace Go.Proofs.Ytgmelcdgnjcojac
open Go.RowKit Crm

/-- The shares of which party i's number is 1, the others' 0. -/
def swl (ts : List Int) (i m : Nat) : List (Int × Int) := (List.range m).map fun j => (ts.getD j 0, if j = i then 1 else 0)
theorem swl_len (ts : List Int) (i m : Nat) : (swl ts i m).length = m := by simp [swl]
theorem swl_snoc (ts : List Int) (i m : Nat) {x y : Int} (hx : ts.getD m 0 = x) (hy : y = if m = i then 1 else 0) : swl ts i m ++ [(x, y)] = swl ts i (m + 1) := by
  unfold swl
  rw [List.range_succ, List.map_append, hy, ← hx]
  rfl
theorem swl_getD (ts : List Int) (i : Nat) {m j : Nat} (h : j < m) : (swl ts i m).getD j (0, 0) = (ts.getD j 0, if j = i then 1 else 0) := by simp [swl, h]
theorem swl_ok {ts : List Int} {n : Nat} (i : Nat) (hd : dis (fi ts) n) : okk (swl ts i n) n := by
  intro j hj
  rw [swl_getD ts i hj]
  have h1 := (hd j hj).1
  unfold fi at h1
  refine ⟨⟨h1.1, by simp only; omega⟩, fun q hq => ?_⟩
  rw [swl_getD ts i (show q < n by omega)]
  exact (hd j hj).2 q hq
theorem swl_wt {ts : List Int} {n i : Nat} {p : List Int} (hd : dis (fi ts) n) (hi : i < n) (h : LoI (swl ts i n) n n p) : nm (ev p 0) = wt ts n i := by
  refine Wgt.one hd ⟨p, h.le, fun j hj => ?_, rfl⟩ (wt_wgt hd hi)
  have := h.val j hj
  rw [if_pos hj, swl_getD ts i hj] at this
  rw [this]
  split <;> rfl
def wtl (ts : List Int) (n k : Nat) : List Int := (List.range k).map (wt ts n)
theorem wtl_snoc (ts : List Int) (n k : Nat) : wtl ts n k ++ [wt ts n k] = wtl ts n (k + 1) := by simp [wtl, List.range_succ]
theorem wtl_bd (ts : List Int) (n k : Nat) : ∀ x ∈ wtl ts n k, 0 ≤ x ∧ x ≤ 2147483646 := by
  intro x hx
  obtain ⟨i, _, rfl⟩ := List.mem_map.1 hx
  exact wt_bd ts n i

set_option maxRecDepth 100000 in
set_option maxHeartbeats 1000000 in
theorem rWeights (a : Option Addr) (n c : Nat) (ts : List Int) (w : World) (h : RdI w a n c ts) (hd : dis (fi ts) n) :
    Calls Try.prog 69 #[.slice a n c] w fun e w' => ∃ a' c', e = .returned (.slice a' n c') ∧ Rd w' a' n c' (wtl ts n n) ∧ Below w.heap.size w w' := by
  have HD : Hid (dis (fi ts) n) := hd
  have hn9 := dis_nine hd
  clear hd
  have hcap := h.cap
  have hmax := h.max
  unfold maxLen at hmax
  go_enter Try.func69, Try.ntmps69
  go_wp2
  go_loopw [3, 4] (fun v i wr => ∃ k : Nat, k ≤ n ∧ i = .int .i64 k ∧ wr.ownsRow w.heap.size 23 1 v k ((wtl ts n k).map (Value.int .u64)) ∧ Below w.heap.size w wr) (fun _ i _ => n - (intOf i).toNat)
  case atStart => exact ⟨0, Nat.zero_le _, rfl, World.ownsRow_nil _ _ _ _, Below.refl _ _⟩
  case round =>
    obtain ⟨k, hk, rfl, hown, hbel⟩ := hrel
    obtain ⟨wo, hwo⟩ : ∃ wo, wo = wr := ⟨_, rfl⟩
    subst hwo
    have hs1 := hbel.size
    by_cases hlt : k < n
    · go_wp2
      go_loopw [5, 6] (fun v i wr => ∃ m : Nat, m ≤ n ∧ i = .int .i64 m ∧ wr.ownsRow wo.heap.size 88 2 v m (shc (swl ts k m)) ∧ Below wo.heap.size wo wr) (fun _ i _ => n - (intOf i).toNat)
      case atStart => exact ⟨0, Nat.zero_le _, rfl, World.ownsRow_nil _ _ _ _, Below.refl _ _⟩
      case round =>
        obtain ⟨m, hm, rfl, hownS, hbm⟩ := hrel
        have hbw := hbel.trans (hbm.mono hs1)
        have hs2 := hbm.size
        by_cases hmn : m < n
        · obtain ⟨b, o, x, rfl, hbb, HX, hx0, hx1, hcx⟩ := (h.below hbw).one hmn
          by_cases hmk : m = k
          · have hmb : ((m : Int) == (k : Int)) = true := by rw [beq_iff_eq]; omega
            have HS : Hid (swl ts k m ++ [(x, 1)] = swl ts k (m + 1)) := swl_snoc ts k m HX.out (by rw [if_pos hmk])
            clear hmk
            go_wp2_with (at_builtin; refine wpList_appS Try.underlying86 infoSh _ rfl _ _ rfl wo.heap.size _ _ _ rfl hownS _ _ rfl (by omega) (by omega) ?_; intro v' w7 hown7 hbel7; rw [HS.out] at hown7; have hbel8 := hbm.trans hbel7; clear hbel7)
            go_roundw
            case rel => exact ⟨m + 1, by omega, by go_num, hown7, hbel8⟩
            case measure => simp [intOf]; omega
          · have hmb : ((m : Int) == (k : Int)) = false := by rw [beq_eq_false_iff_ne]; omega
            have HS : Hid (swl ts k m ++ [(x, 0)] = swl ts k (m + 1)) := swl_snoc ts k m HX.out (by rw [if_neg hmk])
            clear hmk
            go_wp2_with (at_builtin; refine wpList_appS Try.underlying86 infoSh _ rfl _ _ rfl wo.heap.size _ _ _ rfl hownS _ _ rfl (by omega) (by omega) ?_; intro v' w7 hown7 hbel7; rw [HS.out] at hown7; have hbel8 := hbm.trans hbel7; clear hbel7)
            go_roundw
            case rel => exact ⟨m + 1, by omega, by go_num, hown7, hbel8⟩
            case measure => simp [intOf]; omega
        · have hmn' : m = n := by omega
          subst hmn'
          have hlk := swl_len ts k m
          have hbd : ∀ i, i < m → (-9223372036854775808 ≤ ((swl ts k m).getD i (0, 0)).1 ∧ ((swl ts k m).getD i (0, 0)).1 ≤ 9223372036854775807) ∧ 0 ≤ ((swl ts k m).getD i (0, 0)).2 ∧ ((swl ts k m).getD i (0, 0)).2 ≤ 18446744073709551615 := fun i hi => by
            rw [swl_getD ts k hi]
            have h1 := (HD.out i hi).1
            unfold fi at h1
            refine ⟨⟨by simp only; omega, by simp only; omega⟩, ?_⟩
            simp only
            split <;> omega
          obtain ⟨al, cl, rfl, hl⟩ := RdS.own hownS hlk hbd
          have HOK : Hid (okk (swl ts k m) m) := swl_ok k HD.out
          have hown2 := own_below hown hbm
          clear hbd hownS hown
          go_wp2_with fail
          refine (rThrough _ _ _ _ _ hl (by omega) HOK.out).mono ?_
          rintro e w5 ⟨p, ap, cp, rfl, hrp, hLo, hb5⟩
          have HV : Hid (nm (ev p 0) = wt ts m k) := swl_wt HD.out hlt hLo
          have hpl := hLo.le
          obtain ⟨N, hN⟩ : ∃ N, N = p.length := ⟨_, rfl⟩
          rw [← hN] at hrp hpl ⊢
          have hown5 := own_below hown2 hb5
          have hbw5 := hbw.trans (hb5.mono hbw.size)
          have hs5 := hbw5.size
          clear hN hLo hown2 hl hb5 hbw hbm
          go_wp2_with fail
          refine (rEval _ _ _ _ _ _ hrp (by omega) (by omega) (by omega)).mono ?_
          rintro e w6 ⟨rfl, hw⟩
          have hw := hw.symm
          subst hw
          rw [HV.out]
          go_wp2_with (at_builtin; refine wpList_app1 Try.underlying24 info23 _ rfl _ _ rfl w.heap.size _ _ _ rfl hown5 _ rfl (by omega) (by omega) ?_; intro v' w7 hown7 hbel7; rw [wtl_snoc] at hown7; have hbel8 := hbw5.trans hbel7)
          go_roundw
          case rel => exact ⟨k + 1, by omega, by go_num, hown7, hbel8⟩
          case measure => simp [intOf]; omega
    · have hkn : k = n := by omega
      subst hkn
      obtain ⟨a', c', rfl, hr', _⟩ := Rd.own hown (bd_u64 (wtl_bd _ _ _))
      go_wp2
      go_ret
      exact ⟨_, _, rfl, hr', hbel⟩
end Go.Proofs.Ytgmelcdgnjcojac

namespace Go.Proofs.Ytgmelcdgnjcojac
open Go.RowKit Crm

theorem infoVs : (Try.prog.info? 24).map (fun i => (i.zero, i.size, i.bytes)) = some (some (.slice none 0 0), 1, 24) := by kernel_rfl

theorem wrap_i64 {x : Int} (h0 : -1000000 ≤ x) (h1 : x ≤ 1000000) : IntKind.i64.wrap x = x := by
  unfold IntKind.wrap
  simp [IntKind.signed, IntKind.bits]
  omega
/-- Rows that lie elsewhere. -/
def Far (L : List Value) (n lo hi : Nat) : Prop := ∀ p, p < n → ∀ gg, (L.getD p (.slice none 0 0)).ownBlock = some gg → gg < lo ∨ hi ≤ gg
theorem map_getDN {f : Nat → Int} {m i : Nat} (h : i < m) : ((List.range m).map f).getD i 0 = f i := by simp [h]
theorem infoS1 : (Try.prog.info? 23).map (·.size) = some 1 := by kernel_rfl
/-- What all were dealt by the first i. -/
def gti (t : Nat) (xs ys ds : List Int) (n i : Nat) : List (List Int) := (List.range n).map fun j => tmR t xs ys ds i j
theorem gti_len (t : Nat) (xs ys ds : List Int) (n i : Nat) : (gti t xs ys ds n i).length = n := by simp [gti]
theorem gti_zero (t : Nat) (xs ys ds : List Int) (n : Nat) : List.replicate n [] = gti t xs ys ds n 0 := by
  apply List.ext_getElem?
  intro i
  by_cases hi : i < n
  · simp [gti, tmR, hi]
  · simp [gti, hi]
/-- .. and the first j of them by one more. -/
def gtj (t : Nat) (xs ys ds : List Int) (n i j : Nat) : List (List Int) := (List.range n).map fun p => if p < j then tmR t xs ys ds (i + 1) p else tmR t xs ys ds i p
theorem gtj_len (t : Nat) (xs ys ds : List Int) (n i j : Nat) : (gtj t xs ys ds n i j).length = n := by simp [gtj]
theorem gtj_zero (t : Nat) (xs ys ds : List Int) (n i : Nat) : gtj t xs ys ds n i 0 = gti t xs ys ds n i := by simp [gtj, gti]
theorem gtj_full (t : Nat) (xs ys ds : List Int) (n i : Nat) : gtj t xs ys ds n i n = gti t xs ys ds n (i + 1) := by
  unfold gtj gti
  refine List.map_congr_left fun p hp => ?_
  rw [if_pos (List.mem_range.1 hp)]
theorem gtj_getD (t : Nat) (xs ys ds : List Int) {n i j : Nat} (h : j < n) : (gtj t xs ys ds n i j).getD j [] = tmR t xs ys ds i j := by simp [gtj, h]
theorem gti_getD (t : Nat) (xs ys ds : List Int) {n i j : Nat} (h : j < n) : (gti t xs ys ds n i).getD j [] = tmR t xs ys ds i j := by simp [gti, h]
theorem gtj_set (t : Nat) (xs ys ds : List Int) (n i j : Nat) : (gtj t xs ys ds n i j).set j (tmR t xs ys ds (i + 1) j) = gtj t xs ys ds n i (j + 1) := by
  apply List.ext_getElem?
  intro q
  rw [List.getElem?_set]
  by_cases hq : q < n
  · by_cases e : j = q
    · subst e; simp [gtj, hq]
    · have : (q < j + 1) = (q < j) := by apply propext; omega
      simp [gtj, hq, e, this]
  · by_cases e : j = q
    · subst e; simp [gtj, hq]
    · simp [gtj, hq, e]

set_option maxRecDepth 100000 in
set_option maxHeartbeats 4000000 in
theorem rTimes (t : Nat) (a : Option Addr) (n c : Nat) (xs : List Int) (b : Option Addr) (d : Nat) (ys : List Int) (e0 : Option Addr) (m f : Nat) (ds : List Int) (w : World) (h : Rd w a n c xs) (g : Rd w b n d ys) (k : Rd w e0 m f ds) (ht : t ≤ 4) (hn1 : 1 ≤ n) (hn9 : n ≤ 9) (hm : m = n * t) :
    Calls Try.prog 57 #[.int .i64 t, .slice a n c, .slice b n d, .slice e0 m f] w fun e w' => ∃ v u L, e = .returned (.tuple #[v, u]) ∧ w'.ownsRow w.heap.size 23 1 v n ((tmO t xs ys ds n n).map (Value.int .u64)) ∧ LsV w' w.heap.size u L (tmG t xs ys ds n) ∧ Below w.heap.size w w' := by
  obtain ⟨i0, hi, hz0, hz1, hz2⟩ := info_parts infoVs
  have HM : Hid (m = n * t) := hm
  clear hm
  go_enter Try.func57, Try.ntmps57
  go_wp2_with (at_make; refine wpList_make_full _ rfl _ _ 81 rfl w.heap.size 24 i0 (.slice none 0 0) 1 Try.underlying81 hi hz0 hz1 .i64 .i64 _ _ n rfl rfl (by omega) (by omega) (by rw [hz2]; omega) (by unfold maxLen; omega) (Nat.le_refl _) ?_; intro w1 hown hgrow)
  have hb1 : Below w.heap.size w w1 := (Below.refl _ _).grown hgrow (Nat.le_refl _) (by simp)
  have hL1 := lsv_made hown
  rw [gti_zero t xs ys ds n] at hL1
  clear hown hgrow
  go_loopw [12, 13] (fun v q wr => ∃ (i : Nat) (L : List Value), i ≤ n ∧ q = .int .i64 i ∧ wr.ownsRow w.heap.size 3 1 v i (zns (pty i)) ∧ LsV wr w.heap.size (.slice (some ⟨w.heap.size, 0, none⟩) n n) L (gti t xs ys ds n i) ∧ Below w.heap.size w wr) (fun _ q _ => n - (intOf q).toNat)
  case atStart => exact ⟨0, _, Nat.zero_le _, rfl, World.ownsRow_nil _ _ _ _, hL1, hb1⟩
  case round =>
    clear hL1 hb1
    obtain ⟨i, L, hi, rfl, hown, hL, hbel⟩ := hrel
    have hs1 := hbel.size
    by_cases hlt : i < n
    · have HA1 : Hid (∀ w', wr.grownBy w' u12.ownBlock → LsV w' w.heap.size (.slice (some ⟨w.heap.size, 0, none⟩) n n) L (gti t xs ys ds n i)) := fun w' hg => hL.grown hg (own_apart hown hL.own (by decide)) (fun j hj => own_apart hown (hL.row j hj) (by decide))
      have HSn : Hid (zns (pty i) ++ [.int .i64 ((i : Int) + 1)] = zns (pty (i + 1))) := by unfold Hid; rw [zns_snoc, pty_snoc]
      go_wp2_with (at_builtin; refine wpList_appV Try.underlying22 infoZ rfl (by omega) _ rfl _ _ rfl w.heap.size _ _ _ rfl hown (.int .i64 ((i : Int) + 1)) rfl rfl (by omega) hs1 ?_; intro v2 w2 hown2 hgr2 _; rw [HSn.out] at hown2; have hL2 := HA1.out w2 hgr2; have hb2 := hbel.grown hgr2 hs1 (fun q hq => (hown.lt q hq).1); clear hgr2 hown hL hbel HA1)
      obtain ⟨P, HP⟩ : ∃ P, Hid (i * t = P) := ⟨_, rfl⟩
      have hP : (i : Int) * (t : Int) = (P : Int) := by rw [← HP.out]; push_cast; rfl
      have hPm : P + t ≤ m := by
        have h1 : (i + 1) * t ≤ n * t := Nat.mul_le_mul_right t hlt
        rw [Nat.add_mul, Nat.one_mul, HP.out, ← HM.out] at h1
        exact h1
      have hm36 : m ≤ 36 := by rw [HM.out]; exact Nat.le_trans (Nat.mul_le_mul hn9 ht) (by omega)
      have hkc := k.cap
      obtain ⟨b1, o1, x, rfl, hb1, HX, hx0, hx1, hcx⟩ := (h.below hb2).one hlt
      obtain ⟨b2, o2, y, rfl, hb2', HY, hy0, hy1, hcy⟩ := (g.below hb2).one hlt
      have hxy := nm_bd (x * y)
      have hi0 : (0 : Int) ≤ (i : Int) := by omega
      have hin : (i : Int) < (n : Int) := by omega
      have hrk := ((k.below hb2).sub (lo := P) (k := t) hPm)
      obtain ⟨X, HX2⟩ : ∃ X, Hid (subA e0 f P = X) := ⟨_, rfl⟩
      rw [HX2.out] at hrk
      have hsl : ∀ W, (Instr.sliceAt 24 (.slice e0 m f) (some (.int .i64 (P : Int))) (some (.int .i64 ((P : Int) + (t : Int)))) none).run Try.prog W = .ok (.slice X t (f - P)) W := fun W => by rw [← HX2.out]; exact run_sub Try.underlying24 infoS1 e0 m f P t rfl rfl (by omega) W
      have HPC : Hid (nm (x * y) :: (ds.drop P).take t = prC t xs ys ds i) := by unfold Hid prC; rw [HX.out, HY.out, HP.out]
      have hsz2 := hb2.size
      have hwP : IntKind.i64.wrap (P : Int) = (P : Int) := wrap_i64 (by omega) (by omega)
      have hwPt : IntKind.i64.wrap ((P : Int) + (t : Int)) = (P : Int) + (t : Int) := wrap_i64 (by omega) (by omega)
      go_wp2
      go_region_law (first | (go_simp; go_at_call 9; refine (rMul _ _ _ (by omega) (by omega) (by omega) (by omega)).mono ?_; rintro en w' ⟨rfl, rfl⟩) | (go_simp; go_at_call 64; refine (rDealtO _ _ _ _ _ _ _ hrk.drew (by omega) (by omega) ht hn9).mono ?_; rintro en w3 ⟨vl, rfl, hol, hb3⟩))
      all_goals
        rw [HPC.out] at hol
        have hL3 := (hL2.drew).below hb3
        have hown3 := own_below (show w2.drew.ownsRow _ _ _ _ _ _ from hown2) hb3
        have hbw3 := hb2.drew.trans (hb3.mono hsz2)
        have hs23 : w2.heap.size ≤ w3.heap.size := hb3.size
        have hs3 := hbw3.size
        have HFar : Hid (Far L n w2.heap.size w3.heap.size) := fun p hp gg hgg => .inl (((hL2.row p (by rw [gti_len]; exact hp)).lt gg hgg).2)
        have HVl : Hid (∀ gg, vl.ownBlock = some gg → w2.heap.size ≤ gg ∧ gg < w3.heap.size) := fun gg hgg => hol.lt gg hgg
        rw [← gtj_zero] at hL3
        clear hrk hsl HPC hL2 hown2 hb2 hb3 hwP hwPt hP HX2
        go_wp2
        go_loopw [15] (fun q wr => ∃ (j : Nat) (L : List Value), j ≤ n ∧ q = .int .i64 j ∧ LsV wr w.heap.size (.slice (some ⟨w.heap.size, 0, none⟩) n n) L (gtj t xs ys ds n i j) ∧ Hid (Far L n w2.heap.size w3.heap.size) ∧ wr.ownsRow w2.heap.size 23 1 vl n ((dl (prC t xs ys ds i) n).map (Value.int .u64)) ∧ wr.ownsRow w.heap.size 3 1 v2 (i + 1) (zns (pty (i + 1))) ∧ w3.heap.size ≤ wr.heap.size ∧ Below w.heap.size w wr) (fun q _ => n - (intOf q).toNat)
        case atStart => exact ⟨0, L, Nat.zero_le _, rfl, hL3, HFar, hol, hown3, Nat.le_refl _, hbw3⟩
        case round =>
          clear hL3 HFar hol hown3 hbw3
          obtain ⟨j, L, hj, rfl, hL, HFar, hol, hoa, hsr, hbel⟩ := hrel
          by_cases hjn : j < n
          · have hgl := gtj_len t xs ys ds n i j
            obtain ⟨dg, fg, lg⟩ := hL.cell hgl hjn
            have hrow := hL.row j (by rw [hgl]; exact hjn)
            rw [gtj_getD t xs ys ds hjn, tmR_len] at hrow
            obtain ⟨z, HZ⟩ : ∃ z, Hid (dlf (prC t xs ys ds i) j = z) := ⟨_, rfl⟩
            obtain ⟨al, cl, rfl, hrl, _⟩ := Rd.own hol (bd_u64 (dl_bd _ _))
            obtain ⟨b3, o3, z', rfl, hb3', HZ', hz0', hz1', hcz⟩ := hrl.one hjn
            obtain rfl : z = z' := by rw [← HZ.out, ← HZ'.out, dl_getD _ hjn]
            have HTR : Hid (tmR t xs ys ds i j ++ [z] = tmR t xs ys ds (i + 1) j) := by unfold Hid; rw [← HZ.out, tmR_snoc]
            obtain ⟨u, HU⟩ : ∃ u, Hid (L.getD j (.slice none 0 0) = u) := ⟨_, rfl⟩
            rw [HU.out] at dg hrow
            have hrowD : wr.drew.ownsRow w.heap.size 23 1 u i ((tmR t xs ys ds i j).map (Value.int .u64)) := hrow
            obtain ⟨ua, uc, rfl, huc⟩ := own_slice hrow
            have hsw := hbel.size
            have HST : Hid (∀ w7, wr.drew.grownBy w7 (Value.slice ua i uc).ownBlock → (∃ x, w7.cell? ⟨w.heap.size, j, none⟩ = some x) ∧ w7.frozen? ⟨w.heap.size, j, none⟩ = false) := fun w7 hg => by
              have ho7 := (show wr.drew.ownsRow _ _ _ _ _ _ from hL.own).kept hg (own_apart hrowD (show wr.drew.ownsRow _ _ _ _ _ _ from hL.own) (by decide))
              rw [hgl] at ho7
              obtain ⟨g', x, e1, _, _, _, e5⟩ := own_at ho7 hjn
              simp only [Option.some.injEq, Addr.mk.injEq, and_true] at e1
              subst e1
              exact ⟨⟨x, e5⟩, own_frozen ho7 j⟩
            have HUP : Hid (∀ g7 cap7 w7, w7.ownsRow w.heap.size 23 1 (.slice (some ⟨g7, 0, none⟩) (i + 1) cap7) (i + 1) ((tmR t xs ys ds (i + 1) j).map (Value.int .u64)) → wr.drew.grownBy w7 (Value.slice ua i uc).ownBlock → ((Value.slice (some ⟨g7, 0, none⟩) (i + 1) cap7).ownBlock = (Value.slice ua i uc).ownBlock ∨ ∃ k, (Value.slice (some ⟨g7, 0, none⟩) (i + 1) cap7).ownBlock = some k ∧ wr.drew.heap.size ≤ k) →
                LsV (w7.setCell ⟨w.heap.size, j, none⟩ (.slice (some ⟨g7, 0, none⟩) (i + 1) cap7)) w.heap.size (.slice (some ⟨w.heap.size, 0, none⟩) n n) (L.set j (.slice (some ⟨g7, 0, none⟩) (i + 1) cap7)) (gtj t xs ys ds n i (j + 1)) ∧ Far (L.set j (.slice (some ⟨g7, 0, none⟩) (i + 1) cap7)) n w2.heap.size w3.heap.size ∧
                (w7.setCell ⟨w.heap.size, j, none⟩ (.slice (some ⟨g7, 0, none⟩) (i + 1) cap7)).ownsRow w2.heap.size 23 1 (.slice (some ⟨b3, o3, none⟩) n cl) n ((dl (prC t xs ys ds i) n).map (Value.int .u64)) ∧ (w7.setCell ⟨w.heap.size, j, none⟩ (.slice (some ⟨g7, 0, none⟩) (i + 1) cap7)).ownsRow w.heap.size 3 1 v2 (i + 1) (zns (pty (i + 1))) ∧ w3.heap.size ≤ (w7.setCell ⟨w.heap.size, j, none⟩ (.slice (some ⟨g7, 0, none⟩) (i + 1) cap7)).heap.size ∧ Below w.heap.size w (w7.setCell ⟨w.heap.size, j, none⟩ (.slice (some ⟨g7, 0, none⟩) (i + 1) cap7))) := fun g7 cap7 w7 ho hg hat => by
              have hLd := hL.drew
              have hu := hLd.upd (q := j) (row := tmR t xs ys ds (i + 1) j) (u' := .slice (some ⟨g7, 0, none⟩) (i + 1) cap7) hgl hjn (by rw [tmR_len]; exact ho) (by rw [HU.out]; exact hg) (by rw [HU.out]; exact hat)
              rw [gtj_set] at hu
              have hLl := hL.len
              have hg2 : w7.grownBy (w7.setCell ⟨w.heap.size, j, none⟩ (.slice (some ⟨g7, 0, none⟩) (i + 1) cap7)) (some w.heap.size) := grown_set _ _ _ _
              have hb7 : Below w.heap.size w w7 := hbel.drew.grown hg hsw (fun q hq => (hrow.lt q hq).1)
              have ho7 := (show wr.drew.ownsRow _ _ _ _ _ _ from hL.own).kept hg (own_apart hrowD (show wr.drew.ownsRow _ _ _ _ _ _ from hL.own) (by decide))
              have hlk : w7.ownsRow w2.heap.size 23 1 (.slice (some ⟨b3, o3, none⟩) n cl) n ((dl (prC t xs ys ds i) n).map (Value.int .u64)) := by
                refine (show wr.drew.ownsRow _ _ _ _ _ _ from hol).kept hg ?_
                right
                intro e
                cases hb : (Value.slice ua i uc).ownBlock with
                | none => rw [hb] at e; simp [Value.ownBlock] at e
                | some gg =>
                  rw [hb] at e
                  have h1 := HVl.out gg e
                  have h2 := HFar.out j hjn gg (by rw [HU.out]; exact hb)
                  omega
              have hak := (show wr.drew.ownsRow _ _ _ _ _ _ from hoa).kept hg (own_apart hrowD (show wr.drew.ownsRow _ _ _ _ _ _ from hoa) (by decide))
              refine ⟨hu, fun p hp gg hgg => ?_, hlk.kept hg2 (own_apart ho7 hlk (by decide)), hak.kept hg2 (own_apart ho7 hak (by decide)), ?_, hb7.setCell (p := ⟨w.heap.size, j, none⟩) (Nat.le_refl _) _⟩
              · rw [getD_setV _ _ _ _ _ (by rw [hLl, hgl]; exact hjn)] at hgg
                split at hgg
                · rcases hat with e | ⟨k, e, hk⟩
                  · rw [e] at hgg
                    exact HFar.out j hjn gg (by rw [HU.out]; exact hgg)
                  · rw [e] at hgg
                    obtain rfl := Option.some.inj hgg
                    right
                    exact Nat.le_trans hsr hk
                · exact HFar.out p hp gg hgg
              · exact Nat.le_trans hsr (Nat.le_trans hg.size hg2.size)
            have hj0 : (0 : Int) ≤ (j : Int) := by omega
            have hjni : (j : Int) < (n : Int) := by omega
            clear hL hol hoa HFar hbel hrow
            go_wp2
            go_region_law (refine step_appL Try.underlying24 info23 wr.drew rfl _ _ rfl w.heap.size _ _ _ rfl hrowD z rfl rfl (by omega) (by exact hsw) ?_; intro g7 cap7 w7 ho7 hgr7 hat7; rw [HTR.out] at ho7; obtain ⟨⟨xx, dd⟩, ff⟩ := HST.out w7 hgr7; have hl7 := World.block_lt_of_cell? w7 _ dd; have HE : Hid (_ ∧ _) := HUP.out g7 cap7 w7 ho7 hgr7 hat7; clear ho7 hgr7 hat7)
            all_goals
              clear HST HUP hrowD
              go_wp2
              go_roundw
              case rel => exact ⟨j + 1, _, by omega, by go_num, HE.out.1, HE.out.2.1, HE.out.2.2.1, HE.out.2.2.2.1, HE.out.2.2.2.2.1, HE.out.2.2.2.2.2⟩
              case measure => simp [intOf]; omega
          · have hjn2 : j = n := by omega
            subst hjn2
            rw [gtj_full] at hL
            go_wp2
            go_roundw
            case rel => exact ⟨i + 1, L, by omega, by go_num, hoa, hL, hbel⟩
            case measure => simp [intOf]; omega
    · have hin : i = n := by omega
      subst hin
      obtain ⟨aw, cw, rfl, hri⟩ := RdI.own hown (fun x hx => by
        obtain ⟨q, hq, rfl⟩ := List.mem_map.1 hx
        have := List.mem_range.1 hq
        omega)
      clear hown
      go_wp2_with fail
      refine (rWeights _ _ _ _ _ hri (pty_dis hn9)).mono ?_
      rintro e w2 ⟨a2, c2, rfl, hr2, hb2⟩
      have hL2 := hL.below hb2
      have hbw2 := hbel.trans (hb2.mono hs1)
      have hgl := gti_len t xs ys ds i i
      have hs2 := hbw2.size
      clear hL hbel hb2 hri
      go_wp2
      go_loopw [17, 18] (fun v q wr => ∃ j : Nat, j ≤ i ∧ q = .int .i64 j ∧ wr.ownsRow w2.heap.size 23 1 v j ((tmO t xs ys ds i j).map (Value.int .u64)) ∧ Below w2.heap.size w2 wr) (fun _ q _ => i - (intOf q).toNat)
      case atStart => exact ⟨0, Nat.zero_le _, rfl, World.ownsRow_nil _ _ _ _, Below.refl _ _⟩
      case round =>
        obtain ⟨j, hj, rfl, hown, hb3⟩ := hrel
        obtain ⟨wo, hwo⟩ : ∃ wo, wo = wr := ⟨_, rfl⟩
        subst hwo
        have hs3 := hb3.size
        by_cases hji : j < i
        · have hL3 := hL2.below hb3
          have hr3 := hr2.below hb3
          obtain ⟨dg, _, lg⟩ := hL3.cell hgl hji
          obtain ⟨ar, cr, er, hrr⟩ := hL3.one hgl hji (by rw [gti_getD t xs ys ds hji]; exact bd_u64 (tmR_bd _ _ _ _ _ _))
          rw [er] at dg
          rw [gti_getD t xs ys ds hji, tmR_len] at hrr dg
          clear er hL3
          go_wp2
          go_loopw [19, 20] (fun v q wr => ∃ (p nd : Nat) (y : Int), p ≤ i ∧ q = .int .i64 p ∧ v = .int .u64 y ∧ 0 ≤ y ∧ y ≤ 2147483646 ∧ Hid (y = nm (sm (fun i' => wt (pty i) i i' * dlf (prC t xs ys ds i') j) p)) ∧ wr = wo.drewN nd) (fun _ q _ => i - (intOf q).toNat)
          case atStart => exact ⟨0, 0, 0, Nat.zero_le _, rfl, rfl, by omega, by omega, rfl, rfl⟩
          case round =>
            obtain ⟨p, nd, y, hp, rfl, rfl, hy0, hy1, HY, hw⟩ := hrel
            have HW : Hid (wr = wo.drewN nd) := hw
            have hbd : Below wo.heap.size wo wr := by rw [hw]; exact drewN_below (Below.refl _ _) nd
            have dgr : wr.cell? ⟨w.heap.size, j, none⟩ = some (.slice ar i cr) := by rw [hbd.cell (p := ⟨w.heap.size, j, none⟩) lg]; exact dg
            have lgr : w.heap.size < wr.heap.size := Nat.lt_of_lt_of_le lg hbd.size
            clear hw
            by_cases hpi : p < i
            · obtain ⟨b1, o1, x1, rfl, hbb1, HX1, hx10, hx11, hc1⟩ := (hr3.below hbd).one hpi
              obtain ⟨b2, o2, x2, rfl, hbb2, HX2, hx20, hx21, hc2⟩ := (hrr.below hbd).one hpi
              have hmul := nm_bd (x1 * x2)
              have HV : Hid (nm (y + nm (x1 * x2)) = nm (sm (fun i' => wt (pty i) i i' * dlf (prC t xs ys ds i') j) (p + 1))) := by
                unfold Hid
                rw [sm, ← HX1.out, ← HX2.out, tmR_getD t xs ys ds j hpi, HY.out, nm_addl, nm_addr]
                unfold wtl
                rw [map_getDN hpi]
              have hp0 : (0 : Int) ≤ (p : Int) := by omega
              have hpii : (p : Int) < (i : Int) := by omega
              have hj0 : (0 : Int) ≤ (j : Int) := by omega
              have hjii : (j : Int) < (i : Int) := by omega
              go_wp2
              go_quiet ((first | (go_at_call 9; exact Calls.quiet_of_same (rMul _ _ _ (by omega) (by omega) (by omega) (by omega))) | (go_at_call 6; exact Calls.quiet_of_same (rAdd _ _ _ (by omega) (by omega) (by omega) (by omega)))))
              all_goals
                go_wp2
                go_roundw
                case rel => exact ⟨p + 1, _, _, by omega, by go_num, rfl, (nm_bd _).1, (nm_bd _).2, HV, by rw [HW.out, World.drewN_drewN]⟩
                case measure => simp [intOf]; omega
            · have hpi2 : p = i := by omega
              subst hpi2
              have HO : Hid (tmO t xs ys ds p j ++ [y] = tmO t xs ys ds p (j + 1)) := by
                unfold Hid
                rw [HY.out]
                exact tmO_snoc t xs ys ds p j
              have hownr := own_below hown hbd
              have hb4 := hb3.trans (hbd.mono hs3)
              have hs4 := hb4.size
              clear hown hb3 hbd dgr dg HY
              go_wp2_with (at_builtin; refine wpList_app1 Try.underlying24 info23 _ rfl _ _ rfl w2.heap.size _ _ _ rfl hownr _ rfl (by omega) (by omega) ?_; intro v' w7 hown7 hbel7; rw [HO.out] at hown7; have hbel8 := hb4.trans hbel7; clear hbel7 hownr hb4)
              go_roundw
              case rel => exact ⟨j + 1, by omega, by go_num, hown7, hbel8⟩
              case measure => simp [intOf]; omega
        · have hji2 : j = i := by omega
          subst hji2
          have hLE := hL2.below hb3
          have hbE := hbw2.trans (hb3.mono hs2)
          have hoE := own_base hown hs2
          have HG : Hid (gti t xs ys ds j j = tmG t xs ys ds j) := rfl
          rw [HG.out] at hLE
          go_wp2
          go_ret2
          exact ⟨_, _, L, rfl, hoE, hLE, hbE⟩
end Go.Proofs.Ytgmelcdgnjcojac

namespace Go.Proofs.Ytgmelcdgnjcojac
open Go.RowKit Crm

/-- What a handle's look-up tells. -/
theorem Sto.slice {TY : TypeId} {w : World} {p b : Nat} {V : Int → Option Value} {s : Kt} (h : Sto TY w p b V s) {x : Int} {l : List Int} (hf : s.f x = some l) : ∃ a c, V x = some (Value.slice a s.n c) ∧ Rd w a s.n c l := by
  rcases h.val x with e | ⟨l', a, c, e1, e2, e3⟩
  · rw [e.1] at hf; cases hf
  · rw [e1] at hf
    obtain rfl := Option.some.inj hf
    exact ⟨a, c, e2, e3⟩
theorem look_at {w : World} {b q : Nat} {V : Int → Option Value} {x : Int} {v : Value} (h : MapI w b q V) (hv : V x = some v) (hx : i64r x) : (Instr.lookup 53 (.map (some b)) (.int .i64 x) false).run Try.prog w = .ok v w := by
  have := (h.look Try.underlying53 (zeroL _) hx).2
  rw [hv] at this
  exact this

set_option maxRecDepth 100000 in
set_option maxHeartbeats 4000000 in
theorem rCombine (p : Nat) (G : Nat → Prop) (s : Kt) (g x u v z : Int) (w : World) (h : Stx 55 w p G s) (hg : i64r g) (hx : i64r x) (hu0 : 0 ≤ u) (hu1 : u ≤ 18446744073709551615) (hv0 : 0 ≤ v) (hv1 : v ≤ 18446744073709551615) (hz0 : 0 ≤ z) (hz1 : z ≤ 18446744073709551615) (hlast : s.last ≤ 1000000) :
    Calls Try.prog 23 #[.pointer (some ⟨p, 0, none⟩), .int .i64 g, .int .i64 x, .int .u64 u, .int .u64 v, .int .u64 z] w (Kde 55 p G (kmix s g x u v z) w) := by
  have hI := rdI_of2 w (x := g) (y := x) hg hx
  have hb0 : Below w.heap.size w (w.alloc (.cells #[.int .i64 g, .int .i64 x] 3)) := (Below.refl _ _).alloc (Nat.le_refl _) _
  have h0 := h.same hb0
  have hn9 := h.wf.n9
  have hnt := h.wf.nt
  have hGl := h.2
  go_enter Try.func23, Try.ntmps23
  go_wp2_with fail
  generalize w.alloc (.cells #[.int .i64 g, .int .i64 x] 3) = w0 at *
  refine (rHas p G s _ _ _ _ _ h0 hI).mono ?_
  rintro e w1 ⟨rfl, hb1⟩
  rw [hsl_two]
  have hbw := hb0.trans (hb1.mono hb0.size)
  clear h0 hI hb0 hb1
  cases hfg : s.f g with
  | none =>
    have HE : Hid (kmix s g x u v z = (0, 4, s)) := by unfold Hid kmix; rw [hfg]
    simp only [Option.isSome_none, Bool.false_and]
    clear hfg
    go_wp2
    go_ret2
    rw [HE.out]
    exact ⟨rfl, h.below hbw, Tch.of_below hbw⟩
  | some l =>
    cases hfx : s.f x with
    | none =>
      have HE : Hid (kmix s g x u v z = (0, 4, s)) := by unfold Hid kmix; rw [hfg, hfx]
      simp only [Option.isSome_none, Bool.and_false]
      clear hfg hfx
      go_wp2
      go_ret2
      rw [HE.out]
      exact ⟨rfl, h.below hbw, Tch.of_below hbw⟩
    | some m =>
      have HE : Hid (kmix s g x u v z = kadd s (mxl l m u v z s.n)) := by unfold Hid kmix; rw [hfg, hfx]
      simp only [Option.isSome_some, Bool.and_self]
      have h1 := h.same hbw
      have H1 : Hid (Stx 55 w1.drew p G s) := h1.same ((Below.refl _ _).drew)
      obtain ⟨⟨b, V, hS, _⟩, _⟩ := h1
      obtain ⟨ag, cg, hVg, hrg⟩ := hS.slice hfg
      obtain ⟨ax, cx, hVx, hrx⟩ := hS.slice hfx
      obtain ⟨c0, c1, c2, c3⟩ := hS.four
      have hpl := hS.lt
      have hlg := look_at (show MapI w1.drew b s.cnt V from hS.map) hVg hg
      have hlx := look_at (show MapI w1.drew b s.cnt V from hS.map) hVx hx
      have hrg1 := hrg.drew
      have hrx1 := hrx.drew
      have hbd : Below w.heap.size w w1.drew := hbw.drew
      have HNP : Hid (0 < s.n) := by unfold Hid; omega
      obtain ⟨n, HN⟩ : ∃ n, Hid (s.n = n) := ⟨_, rfl⟩
      have hn9' : s.n ≤ 1000 := by omega
      clear hS hVg hVx hrg hrx hfg hfx
      go_wp2
      go_region_with (first | (go_at_call 51; refine (rMixed _ _ _ _ _ _ _ _ _ _ _ hrg1 hrx1 hn9' hu0 hu1 hv0 hv1 hz0 hz1).mono ?_; rintro e w3 ⟨v3, rfl, ho3, hb3⟩; obtain ⟨a3, k3, rfl, hr3, hx3⟩ := Rd.own ho3 (bd_u64 (mxl_bd _ _ _ _ _ _)); have hG3 := gnx_new (G := G) hr3 HNP.out hx3; have h3 := H1.out.below hb3) | (go_at_call 48; refine (rKeep p _ s _ _ _ _ h3 hr3 (mxl_bd _ _ _ _ _ _) hG3 hlast).mono ?_; intro e w4 hK; have HR : Hid (Kde 55 p G (kadd s (mxl l m u v z s.n)) w e w4) := ((hK.behind hb3 H1.out.2).after hbd hGl); obtain ⟨rfl, _, _⟩ := hK))
      all_goals
        clear h3 hr3 hG3 ho3 hb3
        go_wp2
        go_ret2
        rw [HE.out]
        exact HR.out
end Go.Proofs.Ytgmelcdgnjcojac
