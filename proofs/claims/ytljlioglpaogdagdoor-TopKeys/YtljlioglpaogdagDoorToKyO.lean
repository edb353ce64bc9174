/- twine.starts: lists of two-cell elements that are made and then written. · Package keys: Refresh. · Package keys: Open. -/
import Derived.Test.YtljlioglpaogdagDoorToShpM
import Derived.Test.YtljlioglpaogdagDoorToBadM
import Derived.Test.YtljlioglpaogdagDoorToLsW
import Derived.Test.YtljlioglpaogdagDoorToRStB
import Derived.Test.YtljlioglpaogdagDoorToGaussM
import Derived.Test.YtljlioglpaogdagDoorToFitC
import Derived.Test.YtljlioglpaogdagDoorToLstC
import Derived.Deep.RegionHeld3
import Derived.Deep.AppendLies
import Derived.Deep.RegionLaw
import Derived.Test.YtljlioglpaogdagDoorProg
import Derived.WalkKit
import Derived.WalkSpells
import Derived.WalkLawsBesides
import Derived.Test.YtljlioglpaogdagDoorToRStG
namespace Go.Proofs.YtljlioglpaogdagDoor
set_option linter.unusedVariables false
set_option maxRecDepth 100000
set_option maxHeartbeats 8000000
section
open Crm Go.RowKit
theorem made2 (u v : Value) : ∀ n, (madeCells #[u, v] (n * 2)).toList = (List.replicate n ()).flatMap fun _ => [u, v]
  | 0 => by simp [madeCells]
  | n + 1 => by
    have h : ∀ m, (madeCells #[u, v] m).toList = (List.range m).map fun i => (#[u, v] : Array Value)[i % 2]! := fun m => by simp [madeCells]
    have ih := made2 u v n
    have e : (n + 1) * 2 = n * 2 + 1 + 1 := by omega
    rw [h] at ih
    rw [h, e, List.range_succ, List.range_succ, List.map_append, List.map_append, ih, List.replicate_succ', List.flatMap_append]
    have e0 : n * 2 % 2 = 0 := by omega
    have e1 : (n * 2 + 1) % 2 = 1 := by omega
    simp [e0, e1]
theorem made2_shc (n : Nat) : (madeCells (Value.agg #[.int .i64 0, .int .u64 0]).cells (n * 2)).toList = shc (List.replicate n (0, 0)) := by
  have e : (Value.agg #[.int .i64 0, .int .u64 0]).cells = #[.int .i64 0, .int .u64 0] := rfl
  rw [e, made2]
  induction n with
  | zero => rfl
  | succ n ih => rw [List.replicate_succ, List.replicate_succ, List.flatMap_cons, ih]; rfl
theorem shc_set2 : ∀ (l : List (Int × Int)) (q : Nat) (x z : Int), ((shc l).set (q * 2) (.int .i64 x)).set (q * 2 + 1) (.int .u64 z) = shc (l.set q (x, z))
  | [], q, x, z => by simp [shc]
  | p :: l, 0, x, z => rfl
  | p :: l, q + 1, x, z => by
    have := shc_set2 l q x z
    have e1 : (q + 1) * 2 = q * 2 + 1 + 1 := by omega
    rw [e1]
    show _ :: _ :: ((shc l).set (q * 2) (.int .i64 x)).set (q * 2 + 1) (.int .u64 z) = _
    rw [this]
    rfl
/-- A list of shares that is filled from its beginning on. -/
def fils (f : Nat → Int × Int) (n k : Nat) : List (Int × Int) := (List.range n).map fun i => if i < k then f i else (0, 0)
theorem fils_len (f : Nat → Int × Int) (n k : Nat) : (fils f n k).length = n := by simp [fils]
theorem fils_zero (f : Nat → Int × Int) (n : Nat) : List.replicate n (0, 0) = fils f n 0 := by
  apply List.ext_getElem?
  intro i
  by_cases hi : i < n
  · simp [fils, hi]
  · simp [fils, hi]
theorem fils_set {f : Nat → Int × Int} {n k : Nat} (v : Int × Int) (hv : v = f k) : (fils f n k).set k v = fils f n (k + 1) := by
  apply List.ext_getElem?
  intro i
  rw [List.getElem?_set]
  by_cases hi : i < n
  · by_cases e : k = i
    · subst e; simp [fils, hi, hv]
    · have : (i < k + 1) = (i < k) := by apply propext; omega
      simp [fils, hi, e, this]
  · by_cases e : k = i
    · subst e; simp [fils, hi]
    · simp [fils, hi, e]
theorem fils_full (f : Nat → Int × Int) (n : Nat) : fils f n n = (List.range n).map f := by
  unfold fils
  refine List.map_congr_left fun i hi => ?_
  rw [if_pos (List.mem_range.1 hi)]
theorem cRefreshK : KcRefresh := by
  intro p G s x ad q cd ds w h hx r
  have hw := h.wf
  have ht4 := hw.t4
  have hn9 := hw.n9
  have hnt := hw.nt
  have hc8 := hw.c8
  have hcap := r.cap
  have hmax := r.max
  have hlen := r.len
  unfold maxLen at hmax
  have hGl := h.lt
  have HH : Hid (∀ w', Below w.heap.size w w' → Kst w' p G s) := fun w' hb => h.same hb
  obtain ⟨n, HN⟩ : ∃ n, Hid (s.n = n) := ⟨_, rfl⟩
  obtain ⟨t, HT⟩ : ∃ t, Hid (s.t = t) := ⟨_, rfl⟩
  rw [HN.out] at hn9 hnt
  rw [HT.out] at ht4 hnt
  have HC : Hid (∀ w', Below w.heap.size w w' → w'.cell? ⟨p, 0, none⟩ = some (.int .i64 (n : Int)) ∧ w'.cell? ⟨p, 1, none⟩ = some (.int .i64 (t : Int)) ∧ p < w'.heap.size) := fun w' hb => by
    obtain ⟨⟨b, V, hS, _⟩, _⟩ := HH.out w' hb
    have := hS.four
    rw [HN.out, HT.out] at this
    exact ⟨this.1, this.2.1, hS.lt⟩
  obtain ⟨⟨b, V, hS, hF⟩, _⟩ := h
  have HF : Hid (∀ i, Ftp p b V i → G i) := hF
  have HS : Hid (∀ w', Below w.heap.size w w' → Sto 107 w' p b V s) := fun w' hb => hS.keep fun i hi => hb.block i (hGl i (hF i hi))
  obtain ⟨c0, c1, c2, c3⟩ := hS.four
  rw [HN.out] at c0
  rw [HT.out] at c1
  have hpl := hS.lt
  have hM := hS.map
  rcases hS.val x with ⟨fx, vx⟩ | ⟨l, ax, cx, fx, vx, rx⟩
  · have HE : Hid (krfr s x ds = (4, s)) := by unfold Hid krfr; rw [fx]
    have HV : Hid (V x = none) := vx
    clear hS fx vx hF hw
    go_enter Tryd.func46, Tryd.ntmps46
    go_wp2_with (at_lookup; refine wpList_lookK _ rfl _ _ 105 rfl 22 Tryd.underlying105 _ (zeroL _) b s.cnt V rfl hM x rfl hx ?_; rw [HV.out]; simp only [Option.getD_none, Option.isSome_none])
    go_ret
    rw [HE.out]
    exact ⟨rfl, (HH.out w (Below.refl _ _)).below (Below.refl _ _), Tch.refl _ _⟩
  · have HV : Hid (V x = some (.slice ax n cx)) := by unfold Hid; rw [vx, HN.out]
    have HFX : Hid (s.f x = some l) := fx
    have HKL : Hid (l.length = n ∧ ∀ y ∈ l, 0 ≤ y ∧ y ≤ 2147483646) := by
      have := hw.key x l fx
      rw [HN.out] at this
      exact this.2
    have HAX : Hid (∀ y, ax = some y → G y.block) := fun y hy => hF _ (.inr (.inr ⟨x, y, _, _, by rw [← hy]; exact vx, rfl⟩))
    rw [HN.out] at rx
    have hw2 : IntKind.i64.wrap ((n : Int) * (t : Int)) = (n : Int) * (t : Int) := by
      have : (n : Int) * (t : Int) ≤ 36 := by exact_mod_cast Nat.mul_le_mul hn9 ht4
      have : 0 ≤ (n : Int) * (t : Int) := by exact_mod_cast Nat.zero_le (n * t)
      rw [IntKind.wrap_i64]; omega
    clear hw2
    obtain ⟨M, HM⟩ : ∃ M, Hid (n * t = M) := ⟨_, rfl⟩
    have hMI : (n : Int) * (t : Int) = (M : Int) := by rw [← HM.out]; push_cast; rfl
    have hM45 : M ≤ 36 := by rw [← HM.out]; exact Nat.mul_le_mul hn9 ht4
    have hw2 : IntKind.i64.wrap ((M : Int)) = (M : Int) := by rw [IntKind.wrap_i64]; omega
    have HMK : Hid (s.n * s.t = M) := by unfold Hid; rw [HN.out, HT.out, HM.out]
    clear hS fx vx hF hw
    by_cases hm : q = M
    · subst hm
      have HE : Hid (krfr s x ds = (0, ktrn s x (mxl l (ksm s.n s.t false ds s.n) 1 1 0 s.n))) := by unfold Hid krfr; rw [HFX.out]; simp only; rw [if_pos (by rw [hlen, HMK.out])]
      have hmm : ((q : Int) != (q : Int)) = false := by simp
      go_enter Tryd.func46, Tryd.ntmps46
      go_wp2_with (at_lookup; refine wpList_lookK _ rfl _ _ 105 rfl 22 Tryd.underlying105 _ (zeroL _) b s.cnt V rfl hM x rfl hx ?_; rw [HV.out]; simp only [Option.getD_some, Option.isSome_some])
      go_quiet (fail)
      have hb1 : Below w.heap.size w (w.drewN nq) := drewN_below (Below.refl _ _) nq
      have rx1 := rx.drewN nq
      generalize w.drewN nq = w1 at *
      clear c0 c1 c2 c3 hpl hM rx
      obtain ⟨c0, c1, hpl⟩ := HC.out w1 hb1
      go_wp2
      go_loopw [7, 37] (fun v j wr => ∃ (i : Nat) (u : Option Addr) (c' : Nat), i ≤ n ∧ j = .int .i64 i ∧ v = .slice u n c' ∧ Rd wr u n c' (kra n t ds l i) ∧ Hid (∀ y, u = some y → Gnx G w wr y.block) ∧ Below w.heap.size w wr) (fun _ j _ => n - (intOf j).toNat)
      case atStart => exact ⟨0, ax, cx, Nat.zero_le _, rfl, rfl, rx1, fun y hy => .inl (HAX.out y hy), hb1⟩
      case round =>
        clear rx1 hb1 c0 c1 hpl
        obtain ⟨i, u, c', hin, rfl, rfl, hru, HU, hbel⟩ := hrel
        obtain ⟨c0, c1, hpl⟩ := HC.out wr hbel
        have hs1 := hbel.size
        by_cases hlt : i < n
        · have hlti : (i : Int) < (n : Int) := by omega
          obtain ⟨A, HA⟩ : ∃ A, Hid (i * t = A) := ⟨_, rfl⟩
          have hAI : (i : Int) * (t : Int) = (A : Int) := by rw [← HA.out]; push_cast; rfl
          have hBI : ((i : Int) + 1) * (t : Int) = (A : Int) + (t : Int) := by rw [Int.add_mul, hAI, Int.one_mul]
          have hAm : A + t ≤ q := by
            rw [← HA.out, ← HM.out]
            have := Nat.mul_le_mul_right t (show i + 1 ≤ n by omega)
            rw [Nat.add_mul, Nat.one_mul] at this
            exact this
          have hwA : IntKind.i64.wrap (A : Int) = (A : Int) := by rw [IntKind.wrap_i64]; omega
          have hwB : IntKind.i64.wrap ((A : Int) + (t : Int)) = (A : Int) + (t : Int) := by rw [IntKind.wrap_i64]; omega
          have hwi : IntKind.i64.wrap ((i : Int) + 1) = (i : Int) + 1 := by rw [IntKind.wrap_i64]; omega
          have hrs := (r.below hbel).sub (lo := A) (k := t) hAm
          obtain ⟨sa, HSA⟩ : ∃ sa, Hid (subA ad cd A = sa) := ⟨_, rfl⟩
          have hsl : ∀ W, (Instr.sliceAt 22 (.slice ad q cd) (some (.int .i64 (A : Int))) (some (.int .i64 ((A : Int) + (t : Int)))) none).run Tryd.prog W = .ok (.slice sa t (cd - A)) W := fun W => by
            rw [← HSA.out]
            exact run_sub Tryd.underlying22 infoU1 _ q cd A t rfl rfl (by omega) W
          rw [HSA.out] at hrs
          have HKD : Hid (kdr t false ds i = 0 :: (ds.drop A).take t) := by
            unfold Hid
            have e : kat t false i = A := by unfold kat; rw [if_neg (by decide), HA.out]
            rw [kdr_fals, e]
          have HRU : Hid (Rd wr u n c' (kra n t ds l i)) := hru
          have HRT : Hid (Rd wr sa t (cd - A) ((ds.drop A).take t)) := hrs
          have HCW : Hid (∀ w0, Kst w0 p G s → Rd w0 u n c' (kra n t ds l i) → Rd w0 sa t (cd - A) ((ds.drop A).take t) → Calls Tryd.prog 61 #[.pointer (some ⟨p, 0, none⟩), .slice u n c', .int .u64 0, .slice sa t (cd - A)] w0 fun e w' => ∃ v, e = .returned v ∧ w'.ownsRow w0.heap.size 34 1 v n ((kra n t ds l (i + 1)).map (Value.int .u64)) ∧ Below w0.heap.size w0 w') := fun w0 k0 k1 k2 => by
            have e := cWith p G s u c' (kra n t ds l i) 0 sa (cd - A) ((ds.drop A).take t) w0 k0
            rw [HN.out, HT.out, ← HKD.out] at e
            exact e k1 (by omega) (by omega) k2
          have HRB : Hid (∀ y ∈ kra n t ds l (i + 1), 0 ≤ y ∧ y ≤ 2147483646) := kra_bd t ds HKL.out.2 (i + 1)
          have hnp : 0 < n := by omega
          clear hru hrs
          go_wp2_with fail
          go_region_held3 (fun w' => w'.cell? ⟨p, 1, none⟩ = some (.int .i64 (t : Int))) (go_keep) (first | (go_at_call 61; refine (HCW.out _ (HH.out _ hbel.drew) HRU.out.drew HRT.out.drew).mono ?_; rintro e w3 ⟨v3, rfl, ho3, hb3⟩; obtain ⟨a3, k3, rfl, hr3, hx3⟩ := Rd.own ho3 (bd_u64 HRB.out); have hbel3 := hbel.drew.trans (hb3.mono hs1); obtain ⟨e0, e1, e2⟩ := HC.out w3 hbel3))
          all_goals
            have HG3 : Hid (∀ y, a3 = some y → Gnx G w w3 y.block) := gnx_new hr3 hnp (fun y hy => Nat.le_trans hs1 (hx3 y hy))
            clear hb3 ho3 hx3 hbel hsl HRU HRT HCW HU e0 e1 e2
            go_wp2
            go_roundw
            case rel => exact ⟨i + 1, a3, k3, by omega, by go_num, rfl, hr3, HG3, hbel3⟩
            case measure => simp [intOf]; omega
        · obtain rfl : i = n := by omega
          have hnn : ¬ ((i : Int) < (i : Int)) := by omega
          have hM := (HS.out wr hbel).map
          have c3 := (HS.out wr hbel).four.2.2.2
          have HKR : Hid (kra i t ds l i = mxl l (ksm s.n s.t false ds s.n) 1 1 0 s.n) := by unfold Hid; rw [HN.out, HT.out]; exact kra_ksm t ds HKL.out.1 HKL.out.2 i
          have HRU : Hid (Rd wr u i c' (kra i t ds l i)) := hru
          clear hru
          go_wp2_with (at_mapUpdate; refine wpList_putK _ rfl _ _ _ 105 rfl 22 Tryd.underlying105 b s.cnt V rfl hM (by omega) x (.slice u i c') rfl rfl hx ?_; intro w2 hM2 hgr2)
          have HR : Hid (Kkt p G (0, ktrn s x (mxl l (ksm s.n s.t false ds s.n) 1 1 0 s.n)) w (.returned (.int .i64 0)) w2) := by
            have hr5 := HRU.out
            rw [HKR.out, ← HN.out] at hr5
            rw [← HN.out] at hM2
            exact Kte.behind hbel (stx_turn (HS.out wr hbel) (fun i hi => .inl (HF.out i hi)) (Gnx.lt hGl hbel.size) HFX.out (mxl_bd _ _ _ _ _ _) hr5 HU.out hM2 hgr2 _ rfl) hGl
          clear hM hM2 hgr2 c0 c1 c3 hpl HRU
          go_wp2
          go_ret
          rw [HE.out]
          exact HR.out
    · have HE : Hid (krfr s x ds = (1, s)) := by unfold Hid krfr; rw [HFX.out]; simp only; rw [if_neg (by rw [hlen, HMK.out]; exact hm)]
      have hmm : ((q : Int) != (M : Int)) = true := by rw [bne_iff_ne]; omega
      clear hm
      go_enter Tryd.func46, Tryd.ntmps46
      go_wp2_with (at_lookup; refine wpList_lookK _ rfl _ _ 105 rfl 22 Tryd.underlying105 _ (zeroL _) b s.cnt V rfl hM x rfl hx ?_; rw [HV.out]; simp only [Option.getD_some, Option.isSome_some])
      go_quiet (fail)
      have hb1 : Below w.heap.size w (w.drewN nq) := drewN_below (Below.refl _ _) nq
      generalize w.drewN nq = w1 at *
      clear c0 c1 c2 c3 hpl hM rx
      go_wp2
      go_ret
      rw [HE.out]
      exact ⟨rfl, (HH.out w (Below.refl _ _)).below hb1, Tch.of_below hb1⟩
/-- All parties' shares, number by number. -/
def shf1 (l : List Int) (i : Nat) : Int × Int := ((i : Int) + 1, l.getD i 0)
theorem shf1_all (l : List Int) (n : Nat) : fils (shf1 l) n n = shl l n := fils_full _ _

theorem cOpenK : KcOpen := by
  intro p G s x w h hx
  obtain ⟨i0, hi, hz0, hz1, hz2⟩ := info_parts infoSh
  have hw := h.wf
  have hn9 := hw.n9
  have hnt := hw.nt
  have HH : Hid (∀ w', Below w.heap.size w w' → Kst w' p G s) := fun w' hb => h.same hb
  obtain ⟨n, HN⟩ : ∃ n, Hid (s.n = n) := ⟨_, rfl⟩
  obtain ⟨t, HT⟩ : ∃ t, Hid (s.t = t) := ⟨_, rfl⟩
  rw [HN.out] at hn9 hnt
  rw [HT.out] at hnt
  have HC : Hid (∀ w', Below w.heap.size w w' → w'.cell? ⟨p, 0, none⟩ = some (.int .i64 (n : Int)) ∧ w'.cell? ⟨p, 1, none⟩ = some (.int .i64 (t : Int)) ∧ p < w'.heap.size) := fun w' hb => by
    obtain ⟨⟨b, V, hS, _⟩, _⟩ := HH.out w' hb
    have := hS.four
    rw [HN.out, HT.out] at this
    exact ⟨this.1, this.2.1, hS.lt⟩
  obtain ⟨⟨b, V, hS, _⟩, _⟩ := h
  obtain ⟨c0, c1, c2, c3⟩ := hS.four
  have hpl := hS.lt
  have hM := hS.map
  rcases hS.val x with ⟨fx, vx⟩ | ⟨l, ax, cx, fx, vx, rx⟩
  · have HE : Hid (Kop s x 0 4) := .inl ⟨fx, rfl, rfl⟩
    have HV : Hid (V x = none) := vx
    clear hS fx vx hw
    go_enter Tryd.func23, Tryd.ntmps23
    go_wp2_with (at_lookup; refine wpList_lookK _ rfl _ _ 105 rfl 22 Tryd.underlying105 _ (zeroL _) b s.cnt V rfl hM x rfl hx ?_; rw [HV.out]; simp only [Option.getD_none, Option.isSome_none])
    go_ret2
    exact ⟨0, 4, rfl, HE.out, Below.refl _ _⟩
  · have HV : Hid (V x = some (.slice ax n cx)) := by unfold Hid; rw [vx, HN.out]
    have HF : Hid (s.f x = some l) := fx
    have HKL : Hid (∀ y ∈ l, 0 ≤ y ∧ y ≤ 2147483646) := (hw.key x l fx).2.2
    rw [HN.out] at rx
    have hcap := rx.cap
    have hmax := rx.max
    unfold maxLen at hmax
    clear hS fx vx hw
    obtain ⟨F, HFF⟩ : ∃ F : Nat → Int × Int, Hid (shf1 l = F) := ⟨_, rfl⟩
    go_enter Tryd.func23, Tryd.ntmps23
    go_wp2_with (first | (at_lookup; refine wpList_lookK _ rfl _ _ 105 rfl 22 Tryd.underlying105 _ (zeroL _) b s.cnt V rfl hM x rfl hx ?_; rw [HV.out]; simp only [Option.getD_some, Option.isSome_some]) | (at_make; refine wpList_make_full _ rfl _ _ 66 rfl w.heap.size 68 i0 (.agg #[.int .i64 0, .int .u64 0]) 2 Tryd.underlying66 hi hz0 hz1 .i64 .i64 _ _ n rfl rfl (by omega) (by omega) (by rw [hz2]; omega) (by unfold maxLen; omega) (Nat.le_refl _) ?_; intro w1 hown hgrow; rw [made2_shc, fils_zero F] at hown; have hb1 : Below w.heap.size w w1 := (Below.refl _ _).grown hgrow (Nat.le_refl _) (by simp); clear hgrow))
    clear c0 c1 c2 c3 hpl hM
    go_loopw [27] (fun i wr => ∃ k : Nat, k ≤ n ∧ i = .int .i64 k ∧ wr.ownsRow w.heap.size 68 2 (.slice (some ⟨w.heap.size, 0, none⟩) n n) n (shc (fils F n k)) ∧ Below w.heap.size w wr) (fun i _ => n - (intOf i).toNat)
    case atStart => exact ⟨0, Nat.zero_le _, rfl, hown, hb1⟩
    case round =>
      clear hown hb1
      obtain ⟨k, hk, rfl, hown, hbel⟩ := hrel
      have hs1 := hbel.size
      by_cases hlt : k < n
      · obtain ⟨bb, o, y, rfl, hbb, HY, hy0, hy1, hcy⟩ := (rx.below hbel).one hlt
        have hFk : ((k : Int) + 1, y) = F k := by rw [← HFF.out]; show _ = ((k : Int) + 1, l.getD k 0); rw [HY.out]
        obtain ⟨d0, d1⟩ := sh_cell hown (fils_len F n k) hlt
        have ef0 := own_frozen2 hown (k * 2)
        have ef1 := own_frozen2 hown (k * 2 + 1)
        have hown8 := own_set2 (own_set2 hown (k * 2) (.int .i64 ((k : Int) + 1))) (k * 2 + 1) (.int .u64 y)
        rw [shc_set2, fils_set ((k : Int) + 1, y) hFk] at hown8
        have Hown8 : Hid (World.ownsRow _ _ _ _ _ _ _) := hown8
        have Hb8 : Hid (Below _ _ _) := (hbel.setCell (p := ⟨w.heap.size, k * 2, none⟩) (Nat.le_refl _) (.int .i64 ((k : Int) + 1))).setCell (p := ⟨w.heap.size, k * 2 + 1, none⟩) (Nat.le_refl _) (.int .u64 y)
        have hlti : (k : Int) < (n : Int) := by omega
        clear hown hown8 hFk
        go_wp2
        go_roundw
        case rel => exact ⟨k + 1, by omega, by go_num, Hown8.out, Hb8.out⟩
        case measure => simp [intOf]; omega
      · obtain rfl : k = n := by omega
        have hnn : ¬ ((k : Int) < (k : Int)) := by omega
        obtain ⟨c0, c1, hpl⟩ := HC.out wr hbel
        rw [← HFF.out, shf1_all] at hown
        obtain ⟨b', d', e', hr⟩ := RdS.own hown (shl_len _ _) (fun i hi => by
          have := getD_bd' HKL.out i
          rw [shl_getD l hi]
          exact ⟨by simp only; omega, by simp only; omega⟩)
        simp only [Value.slice.injEq, true_and] at e'
        obtain ⟨rfl, rfl⟩ := e'
        clear hown
        go_wp2_with fail
        refine (cOpenS _ _ _ _ _ _ hr).mono ?_
        rintro e w5 ⟨y, r, rfl, hO, hb5⟩
        have HO : Hid (Kop s x y r) := .inr ⟨l, HF.out, by rw [HN.out, HT.out]; exact hO⟩
        have hbw5 := hbel.trans (hb5.mono hbel.size)
        clear hr hb5 hO c0 c1 hpl
        go_wp2
        go_ret2
        exact ⟨y, r, rfl, HO.out, hbw5⟩
end
end Go.Proofs.YtljlioglpaogdagDoor
