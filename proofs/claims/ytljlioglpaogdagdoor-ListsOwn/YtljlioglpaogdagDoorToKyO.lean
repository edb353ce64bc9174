/- twine.starts: lists of two-cell elements that are made and then written. · Package keys: Open. -/
import Derived.Test.YtljlioglpaogdagDoorToShpM
import Derived.Test.YtljlioglpaogdagDoorToBadM
import Derived.Test.YtljlioglpaogdagDoorToShortC
import Derived.Test.YtljlioglpaogdagDoorToHidQ
import Derived.Test.YtljlioglpaogdagDoorToGaussM
import Derived.Test.YtljlioglpaogdagDoorToOpenC
import Derived.Test.YtljlioglpaogdagDoorToLstC
import Derived.Deep.RegionHeld3
import Derived.Deep.AppendLies
import Derived.Deep.RegionLaw
import Derived.Test.YtljlioglpaogdagDoorProg
import Derived.WalkKit
import Derived.WalkSpells
import Derived.WalkLawsBesides
import Derived.Test.YtljlioglpaogdagDoorToKeyV
namespace Go.Proofs.YtljlioglpaogdagDoor
set_option linter.unusedVariables false
set_option maxRecDepth 100000
set_option maxHeartbeats 8000000
section
open Crm Go.RowKit
theorem made2 (u v : Value) : ∀ n, (madeCells #[u, v] (n * 2)).toList = (List.replicate n ()).flatMap fun _ => [u, v]
  | 0 => by simp [madeCells]
  | n + 1 => by
    have h : ∀ m, (madeCells #[u, v] m).toList = (List.range m).map fun i => (#[u, v] : Array Value)[i % 2]! := fun m => by simp [madeCells]
    have ih := made2 u v n
    have e : (n + 1) * 2 = n * 2 + 1 + 1 := by omega
    rw [h] at ih
    rw [h, e, List.range_succ, List.range_succ, List.map_append, List.map_append, ih, List.replicate_succ', List.flatMap_append]
    have e0 : n * 2 % 2 = 0 := by omega
    have e1 : (n * 2 + 1) % 2 = 1 := by omega
    simp [e0, e1]
theorem made2_shc (n : Nat) : (madeCells (Value.agg #[.int .i64 0, .int .u64 0]).cells (n * 2)).toList = shc (List.replicate n (0, 0)) := by
  have e : (Value.agg #[.int .i64 0, .int .u64 0]).cells = #[.int .i64 0, .int .u64 0] := rfl
  rw [e, made2]
  induction n with
  | zero => rfl
  | succ n ih => rw [List.replicate_succ, List.replicate_succ, List.flatMap_cons, ih]; rfl
theorem shc_set2 : ∀ (l : List (Int × Int)) (q : Nat) (x z : Int), ((shc l).set (q * 2) (.int .i64 x)).set (q * 2 + 1) (.int .u64 z) = shc (l.set q (x, z))
  | [], q, x, z => by simp [shc]
  | p :: l, 0, x, z => rfl
  | p :: l, q + 1, x, z => by
    have := shc_set2 l q x z
    have e1 : (q + 1) * 2 = q * 2 + 1 + 1 := by omega
    rw [e1]
    show _ :: _ :: ((shc l).set (q * 2) (.int .i64 x)).set (q * 2 + 1) (.int .u64 z) = _
    rw [this]
    rfl
/-- A list of shares that is filled from its beginning on. -/
def fils (f : Nat → Int × Int) (n k : Nat) : List (Int × Int) := (List.range n).map fun i => if i < k then f i else (0, 0)
theorem fils_len (f : Nat → Int × Int) (n k : Nat) : (fils f n k).length = n := by simp [fils]
theorem fils_zero (f : Nat → Int × Int) (n : Nat) : List.replicate n (0, 0) = fils f n 0 := by
  apply List.ext_getElem?
  intro i
  by_cases hi : i < n
  · simp [fils, hi]
  · simp [fils, hi]
theorem fils_set {f : Nat → Int × Int} {n k : Nat} (v : Int × Int) (hv : v = f k) : (fils f n k).set k v = fils f n (k + 1) := by
  apply List.ext_getElem?
  intro i
  rw [List.getElem?_set]
  by_cases hi : i < n
  · by_cases e : k = i
    · subst e; simp [fils, hi, hv]
    · have : (i < k + 1) = (i < k) := by apply propext; omega
      simp [fils, hi, e, this]
  · by_cases e : k = i
    · subst e; simp [fils, hi]
    · simp [fils, hi, e]
theorem fils_full (f : Nat → Int × Int) (n : Nat) : fils f n n = (List.range n).map f := by
  unfold fils
  refine List.map_congr_left fun i hi => ?_
  rw [if_pos (List.mem_range.1 hi)]
/-- All parties' shares, number by number. -/
def shf1 (l : List Int) (i : Nat) : Int × Int := ((i : Int) + 1, l.getD i 0)
theorem shf1_all (l : List Int) (n : Nat) : fils (shf1 l) n n = shl l n := fils_full _ _

theorem cOpenK : KcOpen := by
  intro p G s x w h hx
  obtain ⟨i0, hi, hz0, hz1, hz2⟩ := info_parts infoSh
  have hw := h.wf
  have hn9 := hw.n9
  have hnt := hw.nt
  have HH : Hid (∀ w', Below w.heap.size w w' → Kst w' p G s) := fun w' hb => h.same hb
  obtain ⟨n, HN⟩ : ∃ n, Hid (s.n = n) := ⟨_, rfl⟩
  obtain ⟨t, HT⟩ : ∃ t, Hid (s.t = t) := ⟨_, rfl⟩
  rw [HN.out] at hn9 hnt
  rw [HT.out] at hnt
  have HC : Hid (∀ w', Below w.heap.size w w' → w'.cell? ⟨p, 0, none⟩ = some (.int .i64 (n : Int)) ∧ w'.cell? ⟨p, 1, none⟩ = some (.int .i64 (t : Int)) ∧ p < w'.heap.size) := fun w' hb => by
    obtain ⟨⟨b, V, hS, _⟩, _⟩ := HH.out w' hb
    have := hS.four
    rw [HN.out, HT.out] at this
    exact ⟨this.1, this.2.1, hS.lt⟩
  obtain ⟨⟨b, V, hS, _⟩, _⟩ := h
  obtain ⟨c0, c1, c2, c3⟩ := hS.four
  have hpl := hS.lt
  have hM := hS.map
  rcases hS.val x with ⟨fx, vx⟩ | ⟨l, ax, cx, fx, vx, rx⟩
  · have HE : Hid (Kop s x 0 4) := .inl ⟨fx, rfl, rfl⟩
    have HV : Hid (V x = none) := vx
    clear hS fx vx hw
    go_enter Tryd.func23, Tryd.ntmps23
    go_wp2_with (at_lookup; refine wpList_lookK _ rfl _ _ 105 rfl 22 Tryd.underlying105 _ (zeroL _) b s.cnt V rfl hM x rfl hx ?_; rw [HV.out]; simp only [Option.getD_none, Option.isSome_none])
    go_ret2
    exact ⟨0, 4, rfl, HE.out, Below.refl _ _⟩
  · have HV : Hid (V x = some (.slice ax n cx)) := by unfold Hid; rw [vx, HN.out]
    have HF : Hid (s.f x = some l) := fx
    have HKL : Hid (∀ y ∈ l, 0 ≤ y ∧ y ≤ 2147483646) := (hw.key x l fx).2.2
    rw [HN.out] at rx
    have hcap := rx.cap
    have hmax := rx.max
    unfold maxLen at hmax
    clear hS fx vx hw
    obtain ⟨F, HFF⟩ : ∃ F : Nat → Int × Int, Hid (shf1 l = F) := ⟨_, rfl⟩
    go_enter Tryd.func23, Tryd.ntmps23
    go_wp2_with (first | (at_lookup; refine wpList_lookK _ rfl _ _ 105 rfl 22 Tryd.underlying105 _ (zeroL _) b s.cnt V rfl hM x rfl hx ?_; rw [HV.out]; simp only [Option.getD_some, Option.isSome_some]) | (at_make; refine wpList_make_full _ rfl _ _ 66 rfl w.heap.size 68 i0 (.agg #[.int .i64 0, .int .u64 0]) 2 Tryd.underlying66 hi hz0 hz1 .i64 .i64 _ _ n rfl rfl (by omega) (by omega) (by rw [hz2]; omega) (by unfold maxLen; omega) (Nat.le_refl _) ?_; intro w1 hown hgrow; rw [made2_shc, fils_zero F] at hown; have hb1 : Below w.heap.size w w1 := (Below.refl _ _).grown hgrow (Nat.le_refl _) (by simp); clear hgrow))
    clear c0 c1 c2 c3 hpl hM
    go_loopw [27] (fun i wr => ∃ k : Nat, k ≤ n ∧ i = .int .i64 k ∧ wr.ownsRow w.heap.size 68 2 (.slice (some ⟨w.heap.size, 0, none⟩) n n) n (shc (fils F n k)) ∧ Below w.heap.size w wr) (fun i _ => n - (intOf i).toNat)
    case atStart => exact ⟨0, Nat.zero_le _, rfl, hown, hb1⟩
    case round =>
      clear hown hb1
      obtain ⟨k, hk, rfl, hown, hbel⟩ := hrel
      have hs1 := hbel.size
      by_cases hlt : k < n
      · obtain ⟨bb, o, y, rfl, hbb, HY, hy0, hy1, hcy⟩ := (rx.below hbel).one hlt
        have hFk : ((k : Int) + 1, y) = F k := by rw [← HFF.out]; show _ = ((k : Int) + 1, l.getD k 0); rw [HY.out]
        obtain ⟨d0, d1⟩ := sh_cell hown (fils_len F n k) hlt
        have ef0 := own_frozen2 hown (k * 2)
        have ef1 := own_frozen2 hown (k * 2 + 1)
        have hown8 := own_set2 (own_set2 hown (k * 2) (.int .i64 ((k : Int) + 1))) (k * 2 + 1) (.int .u64 y)
        rw [shc_set2, fils_set ((k : Int) + 1, y) hFk] at hown8
        have Hown8 : Hid (World.ownsRow _ _ _ _ _ _ _) := hown8
        have Hb8 : Hid (Below _ _ _) := (hbel.setCell (p := ⟨w.heap.size, k * 2, none⟩) (Nat.le_refl _) (.int .i64 ((k : Int) + 1))).setCell (p := ⟨w.heap.size, k * 2 + 1, none⟩) (Nat.le_refl _) (.int .u64 y)
        have hlti : (k : Int) < (n : Int) := by omega
        clear hown hown8 hFk
        go_wp2
        go_roundw
        case rel => exact ⟨k + 1, by omega, by go_num, Hown8.out, Hb8.out⟩
        case measure => simp [intOf]; omega
      · obtain rfl : k = n := by omega
        have hnn : ¬ ((k : Int) < (k : Int)) := by omega
        obtain ⟨c0, c1, hpl⟩ := HC.out wr hbel
        rw [← HFF.out, shf1_all] at hown
        obtain ⟨b', d', e', hr⟩ := RdS.own hown (shl_len _ _) (fun i hi => by
          have := getD_bd' HKL.out i
          rw [shl_getD l hi]
          exact ⟨by simp only; omega, by simp only; omega⟩)
        simp only [Value.slice.injEq, true_and] at e'
        obtain ⟨rfl, rfl⟩ := e'
        clear hown
        go_wp2_with fail
        refine (cOpenS _ _ _ _ _ _ hr).mono ?_
        rintro e w5 ⟨y, r, rfl, hO, hb5⟩
        have HO : Hid (Kop s x y r) := .inr ⟨l, HF.out, by rw [HN.out, HT.out]; exact hO⟩
        have hbw5 := hbel.trans (hb5.mono hbel.size)
        clear hr hb5 hO c0 c1 hpl
        go_wp2
        go_ret2
        exact ⟨y, r, rfl, HO.out, hbw5⟩
end
end Go.Proofs.YtljlioglpaogdagDoor
