/- Package keys: Open. · Package keys: all its calls. · croftlaw.KeysPlay: the walk, package keys' contracts paid. -/
import Derived.Test.YtgmelcdgnjcojacToKyM
import Derived.Test.YtgmelcdgnjcojacToTwStC
import Derived.Test.YtgmelcdgnjcojacToKyR
import Derived.Test.YtgmelcdgnjcojacToWireC
namespace Go.Proofs.Ytgmelcdgnjcojac
open Go.RowKit Crm

/-- All parties' shares, number by number. -/
def shf1 (l : List Int) (i : Nat) : Int × Int := ((i : Int) + 1, l.getD i 0)
theorem shf1_all (l : List Int) (n : Nat) : fils (shf1 l) n n = shl l n := fils_full _ _

set_option maxRecDepth 100000 in
set_option maxHeartbeats 2000000 in
theorem cOpenK : KcOpen := by
  intro p G s x w h hx
  obtain ⟨i0, hi, hz0, hz1, hz2⟩ := info_parts infoSh
  have hw := h.wf
  have hn9 := hw.n9
  have hnt := hw.nt
  have HH : Hid (∀ w', Below w.heap.size w w' → Kst w' p G s) := fun w' hb => h.same hb
  obtain ⟨n, HN⟩ : ∃ n, Hid (s.n = n) := ⟨_, rfl⟩
  obtain ⟨t, HT⟩ : ∃ t, Hid (s.t = t) := ⟨_, rfl⟩
  rw [HN.out] at hn9 hnt
  rw [HT.out] at hnt
  have HC : Hid (∀ w', Below w.heap.size w w' → w'.cell? ⟨p, 0, none⟩ = some (.int .i64 (n : Int)) ∧ w'.cell? ⟨p, 1, none⟩ = some (.int .i64 (t : Int)) ∧ p < w'.heap.size) := fun w' hb => by
    obtain ⟨⟨b, V, hS, _⟩, _⟩ := HH.out w' hb
    have := hS.four
    rw [HN.out, HT.out] at this
    exact ⟨this.1, this.2.1, hS.lt⟩
  obtain ⟨⟨b, V, hS, _⟩, _⟩ := h
  obtain ⟨c0, c1, c2, c3⟩ := hS.four
  have hpl := hS.lt
  have hM := hS.map
  rcases hS.val x with ⟨fx, vx⟩ | ⟨l, ax, cx, fx, vx, rx⟩
  · have HE : Hid (Kop s x 0 4) := .inl ⟨fx, rfl, rfl⟩
    have HV : Hid (V x = none) := vx
    clear hS fx vx hw
    go_enter Try.func29, Try.ntmps29
    go_wp2_with (at_lookup; refine wpList_lookK _ rfl _ _ 53 rfl 24 Try.underlying53 _ (zeroL _) b s.cnt V rfl hM x rfl hx ?_; rw [HV.out]; simp only [Option.getD_none, Option.isSome_none])
    go_ret2
    exact ⟨0, 4, rfl, HE.out, Below.refl _ _⟩
  · have HV : Hid (V x = some (.slice ax n cx)) := by unfold Hid; rw [vx, HN.out]
    have HF : Hid (s.f x = some l) := fx
    have HKL : Hid (∀ y ∈ l, 0 ≤ y ∧ y ≤ 2147483646) := (hw.key x l fx).2.2
    rw [HN.out] at rx
    have hcap := rx.cap
    have hmax := rx.max
    unfold maxLen at hmax
    clear hS fx vx hw
    obtain ⟨F, HFF⟩ : ∃ F : Nat → Int × Int, Hid (shf1 l = F) := ⟨_, rfl⟩
    go_enter Try.func29, Try.ntmps29
    go_wp2_with (first | (at_lookup; refine wpList_lookK _ rfl _ _ 53 rfl 24 Try.underlying53 _ (zeroL _) b s.cnt V rfl hM x rfl hx ?_; rw [HV.out]; simp only [Option.getD_some, Option.isSome_some]) | (at_make; refine wpList_make_full _ rfl _ _ 86 rfl w.heap.size 88 i0 (.agg #[.int .i64 0, .int .u64 0]) 2 Try.underlying86 hi hz0 hz1 .i64 .i64 _ _ n rfl rfl (by omega) (by omega) (by rw [hz2]; omega) (by unfold maxLen; omega) (Nat.le_refl _) ?_; intro w1 hown hgrow; rw [made2_shc, fils_zero F] at hown; have hb1 : Below w.heap.size w w1 := (Below.refl _ _).grown hgrow (Nat.le_refl _) (by simp); clear hgrow))
    clear c0 c1 c2 c3 hpl hM
    go_loopw [27] (fun i wr => ∃ k : Nat, k ≤ n ∧ i = .int .i64 k ∧ wr.ownsRow w.heap.size 88 2 (.slice (some ⟨w.heap.size, 0, none⟩) n n) n (shc (fils F n k)) ∧ Below w.heap.size w wr) (fun i _ => n - (intOf i).toNat)
    case atStart => exact ⟨0, Nat.zero_le _, rfl, hown, hb1⟩
    case round =>
      clear hown hb1
      obtain ⟨k, hk, rfl, hown, hbel⟩ := hrel
      have hs1 := hbel.size
      by_cases hlt : k < n
      · obtain ⟨bb, o, y, rfl, hbb, HY, hy0, hy1, hcy⟩ := (rx.below hbel).one hlt
        have hFk : ((k : Int) + 1, y) = F k := by rw [← HFF.out]; show _ = ((k : Int) + 1, l.getD k 0); rw [HY.out]
        obtain ⟨d0, d1⟩ := sh_cell hown (fils_len F n k) hlt
        have ef0 := own_frozen2 hown (k * 2)
        have ef1 := own_frozen2 hown (k * 2 + 1)
        have hown8 := own_set2 (own_set2 hown (k * 2) (.int .i64 ((k : Int) + 1))) (k * 2 + 1) (.int .u64 y)
        rw [shc_set2, fils_set ((k : Int) + 1, y) hFk] at hown8
        have Hown8 : Hid (World.ownsRow _ _ _ _ _ _ _) := hown8
        have Hb8 : Hid (Below _ _ _) := (hbel.setCell (p := ⟨w.heap.size, k * 2, none⟩) (Nat.le_refl _) (.int .i64 ((k : Int) + 1))).setCell (p := ⟨w.heap.size, k * 2 + 1, none⟩) (Nat.le_refl _) (.int .u64 y)
        have hlti : (k : Int) < (n : Int) := by omega
        clear hown hown8 hFk
        go_wp2
        go_roundw
        case rel => exact ⟨k + 1, by omega, by go_num, Hown8.out, Hb8.out⟩
        case measure => simp [intOf]; omega
      · obtain rfl : k = n := by omega
        have hnn : ¬ ((k : Int) < (k : Int)) := by omega
        obtain ⟨c0, c1, hpl⟩ := HC.out wr hbel
        rw [← HFF.out, shf1_all] at hown
        obtain ⟨b', d', e', hr⟩ := RdS.own hown (shl_len _ _) (fun i hi => by
          have := getD_bd' HKL.out i
          rw [shl_getD l hi]
          exact ⟨by simp only; omega, by simp only; omega⟩)
        simp only [Value.slice.injEq, true_and] at e'
        obtain ⟨rfl, rfl⟩ := e'
        clear hown
        go_wp2_with fail
        refine (cOpenS _ _ _ _ _ _ hr).mono ?_
        rintro e w5 ⟨y, r, rfl, hO, hb5⟩
        have HO : Hid (Kop s x y r) := .inr ⟨l, HF.out, by rw [HN.out, HT.out]; exact hO⟩
        have hbw5 := hbel.trans (hb5.mono hbel.size)
        clear hr hb5 hO c0 c1 hpl
        go_wp2
        go_ret2
        exact ⟨y, r, rfl, HO.out, hbw5⟩
end Go.Proofs.Ytgmelcdgnjcojac



namespace Go.Proofs.Ytgmelcdgnjcojac
open Go.RowKit Crm

theorem keysPlayV (n t : Int) (al : Option Addr) (m cl : Nat) (L : List Cl) (w : World) (hn0 : -9223372036854775808 ≤ n) (hn1 : n ≤ 9223372036854775807) (ht0 : -9223372036854775808 ≤ t) (ht1 : t ≤ 9223372036854775807) (hl : RdC w al m cl L) :
    Calls Try.prog 4 #[.int .i64 n, .int .i64 t, .slice al m cl] w fun e w' => e = .returned (.bool true) ∧ Below w.heap.size w w' :=
  keysPlayW cNewK cGenK cRefreshK cTweakK cCombineK cMultiplyK cOpenK cSharesK cDropK n t al m cl L w hn0 hn1 ht0 ht1 hl
end Go.Proofs.Ytgmelcdgnjcojac
