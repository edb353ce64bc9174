/- croftref.NewStore; (*croftref.Store).Drop, Open. · slices.Index and Contains of ints that came in. · croftref.Parties. -/
import Derived.Test.YtgmelcdgnjcojacToRStC
import Derived.Test.YtgmelcdgnjcojacToIntsC
import Derived.Test.YtgmelcdgnjcojacToAddC
import Derived.Test.YtgmelcdgnjcojacToSortC
namespace Go.Proofs.Ytgmelcdgnjcojac
open Go.RowKit Crm

theorem sto_new (w : World) {n t : Nat} (ht : t ≤ 4) (hn : n ≤ 9) (h : 2 * t + 1 ≤ n) (TY : TypeId) {A : World} (hA : A = (w.alloc (.map #[] 0)).alloc (.cells #[.int .i64 n, .int .i64 t, .int .i64 0, .map (some w.heap.size)] TY)) :
    Stx TY A (w.heap.size + 1) (fun i => w.heap.size ≤ i ∧ i < w.heap.size + 2) (k0 n t) ∧ Below w.heap.size w A := by
  subst hA
  have h1 := MapI.made w
  have e1 : (w.alloc (.map #[] 0)).heap.size = w.heap.size + 1 := by simp
  have hb : Below (w.alloc (.map #[] 0)).heap.size (w.alloc (.map #[] 0)) ((w.alloc (.map #[] 0)).alloc (.cells #[.int .i64 n, .int .i64 t, .int .i64 0, .map (some w.heap.size)] TY)) := (Below.refl _ _).alloc (Nat.le_refl _) _
  have h2 := heap_alloc_new (w.alloc (.map #[] 0)) (.cells #[.int .i64 n, .int .i64 t, .int .i64 0, .map (some w.heap.size)] TY)
  rw [e1] at h2
  refine ⟨⟨⟨w.heap.size, fun _ => none, ⟨h2, h1.below hb h1.lt, fun i => .inl ⟨rfl, rfl⟩, k0_wf ht hn h⟩, fun i hi => ?_⟩, fun i hi => by simp; omega⟩, ((Below.refl _ _).alloc (Nat.le_refl _) _).alloc (by simp) _⟩
  rcases hi with rfl | rfl | ⟨_, _, _, _, e, _⟩
  · omega
  · omega
  · cases e

set_option maxRecDepth 100000 in
theorem rNewStore (n t : Nat) (w : World) (ht : t ≤ 4) (hn : n ≤ 9) (h : 2 * t + 1 ≤ n) :
    Calls Try.prog 17 #[.int .i64 n, .int .i64 t] w fun e w' => ∃ p G, e = .returned (.pointer (some ⟨p, 0, none⟩)) ∧ Stx 55 w' p G (k0 n t) ∧ (∀ i, G i → w.heap.size ≤ i) ∧ Below w.heap.size w w' := by
  have hmm := @run_makeMap Try.prog
  obtain ⟨hX, hB⟩ := sto_new w ht hn h 55 rfl
  have HX : Hid (Stx _ _ _ _ _) := hX
  have HB : Hid (Below _ _ _) := hB
  clear hX hB
  go_enter Try.func17, Try.ntmps17
  go_wp2
  go_ret
  exact ⟨_, _, rfl, HX.out, fun i hi => hi.1, HB.out⟩

set_option maxRecDepth 100000 in
set_option maxHeartbeats 2000000 in
theorem rDrop (p : Nat) (G : Nat → Prop) (s : Kt) (x : Int) (w : World) (h : Stx 55 w p G s) (hx0 : -9223372036854775808 ≤ x) (hx1 : x ≤ 9223372036854775807) :
    Calls Try.prog 28 #[.pointer (some ⟨p, 0, none⟩), .int .i64 x] w (Kte 55 p G (kdrp s x) w) := by
  have hI := rdI_of1 w (x := x) ⟨hx0, hx1⟩
  have hb0 : Below w.heap.size w (w.alloc (.cells #[.int .i64 x] 3)) := (Below.refl _ _).alloc (Nat.le_refl _) _
  have hGl := h.2
  have h0 := h.same hb0
  go_enter Try.func28, Try.ntmps28
  go_wp2_with fail
  generalize w.alloc (.cells #[.int .i64 x] 3) = w0 at *
  refine (rHas p G s _ _ _ _ _ h0 hI).mono ?_
  rintro e w1 ⟨rfl, hb1⟩
  rw [hsl_one]
  have hbw := hb0.trans (hb1.mono hb0.size)
  have h1 := h.same hbw
  clear h0 hI hb0 hb1
  cases hf : s.f x with
  | none =>
    have HE : Hid (kdrp s x = (4, s)) := by unfold Hid kdrp; rw [hf]
    simp only [Option.isSome_none]
    clear hf
    go_wp2
    go_ret
    rw [HE.out]
    exact ⟨rfl, h.below hbw, Tch.of_below hbw⟩
  | some l =>
    have HE : Hid (kdrp s x = (0, kout s x)) := by unfold Hid kdrp; rw [hf]
    have HF : Hid (s.f x = some l) := hf
    simp only [Option.isSome_some]
    obtain ⟨⟨b, V, hS, hF⟩, hGl1⟩ := h1
    obtain ⟨c0, c1, c2, c3⟩ := hS.four
    have hpl := hS.lt
    have hM := hS.map
    clear hf
    go_wp2_with (at_delete; refine wpList_delK _ rfl _ _ 53 rfl 24 Try.underlying53 b s.cnt V rfl hM x rfl ⟨hx0, hx1⟩ ?_; intro w2 hM2 hgr2)
    have hk : ∀ i, i < w1.heap.size → i ≠ b → w2.heap[i]? = w1.heap[i]? := fun i hi hne => hgr2.block i hi (by simpa using hne)
    have HP := hS.out HF.out hM2 hk
    have HR : Hid (Kte 55 p G (0, kout s x) w1 (.returned (.int .i64 0)) w2) := by
      refine ⟨rfl, ⟨⟨b, _, HP, fun i hi => .inl ?_⟩, Gnx.lt hGl1 hgr2.size⟩, ⟨hgr2.os, hgr2.tape, hgr2.output, hgr2.size, fun i hi hn => hk i hi (fun e => hn (hF _ (.inr (.inl e))))⟩⟩
      rcases hi with rfl | rfl | ⟨hh, a', m, c', e, rfl⟩
      · exact hF _ (.inl rfl)
      · exact hF _ (.inr (.inl rfl))
      · unfold mset at e
        split at e
        · cases e
        · exact hF _ (.inr (.inr ⟨hh, a', m, c', e, rfl⟩))
    clear hM hM2 hgr2 hk HP c0 c1 c2 c3 hpl
    go_wp2
    go_ret
    rw [HE.out]
    exact HR.out.after hbw hGl

set_option maxRecDepth 100000 in
set_option maxHeartbeats 2000000 in
theorem rOpenK (p : Nat) (G : Nat → Prop) (s : Kt) (x : Int) (w : World) (h : Stx 55 w p G s) (hx0 : -9223372036854775808 ≤ x) (hx1 : x ≤ 9223372036854775807) :
    Calls Try.prog 30 #[.pointer (some ⟨p, 0, none⟩), .int .i64 x] w fun e w' => ∃ y r, e = .returned (.tuple #[.int .u64 y, .int .i64 r]) ∧ Kop s x y r ∧ Below w.heap.size w w' := by
  have hI := rdI_of1 w (x := x) ⟨hx0, hx1⟩
  have hb0 : Below w.heap.size w (w.alloc (.cells #[.int .i64 x] 3)) := (Below.refl _ _).alloc (Nat.le_refl _) _
  have h0 := h.same hb0
  have hn9 := h.wf.n9
  go_enter Try.func30, Try.ntmps30
  go_wp2_with fail
  generalize w.alloc (.cells #[.int .i64 x] 3) = w0 at *
  refine (rHas p G s _ _ _ _ _ h0 hI).mono ?_
  rintro e w1 ⟨rfl, hb1⟩
  rw [hsl_one]
  have hbw := hb0.trans (hb1.mono hb0.size)
  clear h0 hI hb0 hb1
  cases hf : s.f x with
  | none =>
    have HE : Hid (Kop s x 0 4) := .inl ⟨hf, rfl, rfl⟩
    simp only [Option.isSome_none]
    clear hf
    go_wp2
    go_ret2
    exact ⟨0, 4, rfl, HE.out, hbw⟩
  | some l =>
    have HF : Hid (s.f x = some l) := hf
    simp only [Option.isSome_some]
    clear hf
    obtain ⟨n, HN⟩ : ∃ n, Hid (s.n = n) := ⟨_, rfl⟩
    rw [HN.out] at hn9
    go_wp2
    obtain ⟨hs1⟩ : Nonempty (w.heap.size ≤ w1.heap.size) := ⟨hbw.size⟩
    go_loopw [6, 7] (fun v i wr => ∃ k : Nat, k ≤ n ∧ i = .int .i64 k ∧ wr.ownsRow w1.heap.size 88 2 v k (shc (shl l k)) ∧ Below w1.heap.size w1 wr) (fun _ i _ => n - (intOf i).toNat)
    case atStart => exact ⟨0, Nat.zero_le _, rfl, World.ownsRow_nil _ _ _ _, Below.refl _ _⟩
    case round =>
      obtain ⟨k, hk, rfl, hown, hbel⟩ := hrel
      have hbw2 := hbw.trans (hbel.mono hs1)
      obtain ⟨⟨b, V, hS, _⟩, _⟩ := h.same hbw2
      obtain ⟨c0, c1, c2, c3⟩ := hS.four
      rw [HN.out] at c0
      have hpl := hS.lt
      have hM := hS.map
      have hs2 := hbel.size
      by_cases hlt : k < n
      · obtain ⟨a, c, hV, hr⟩ : ∃ a c, V x = some (.slice a n c) ∧ Rd wr a n c l := by
          rcases hS.val x with e | ⟨l', a, c, e1, e2, e3⟩
          · have := HF.out; rw [e.1] at this; cases this
          · have e4 := HF.out
            rw [e1] at e4
            obtain rfl := Option.some.inj e4
            rw [HN.out] at e2 e3
            exact ⟨a, c, e2, e3⟩
        obtain ⟨bb, o, y, rfl, hbb, HY, hy0, hy1, hcy⟩ := hr.one hlt
        have HV : Hid ((V x).getD (.slice none 0 0) = .slice (some ⟨bb, o, none⟩) n c) := by unfold Hid; rw [hV]; rfl
        have HSn : Hid (shl l k ++ [((k : Int) + 1, y)] = shl l (k + 1)) := shl_snoc l k HY.out
        have hlti : (k : Int) < (n : Int) := by omega
        have hcr := hr.cap
        have hcm := hr.max
        unfold maxLen at hcm
        clear hS hV hr
        go_wp2_with (first | (at_lookup; refine wpList_lookV _ rfl _ _ 53 rfl 24 Try.underlying53 _ (zeroL _) b s.cnt V rfl hM x rfl ⟨hx0, hx1⟩ ?_; rw [HV.out]) | (at_builtin; refine wpList_appS Try.underlying86 infoSh _ rfl _ _ rfl w1.heap.size _ _ _ rfl hown _ _ rfl (by omega) (by omega) ?_; intro v' w7 hown7 hbel7; rw [HSn.out] at hown7; have hbel8 := hbel.trans hbel7; clear hbel7))
        go_roundw
        case rel => exact ⟨k + 1, by omega, by go_num, hown7, hbel8⟩
        case measure => simp [intOf]; omega
      · obtain rfl : k = n := by omega
        have hll := h.wf.key x l HF.out
        obtain ⟨b', d', rfl, hr⟩ := RdS.own hown (shl_len _ _) (fun i hi => by
          have := getD_bd' hll.2.2 i
          rw [shl_getD l hi]
          exact ⟨by simp only; omega, by simp only; omega⟩)
        have hkk : ¬ ((k : Int) < (k : Int)) := by omega
        obtain ⟨t, HT⟩ : ∃ t, Hid (s.t = t) := ⟨_, rfl⟩
        rw [HT.out] at c1
        clear hown hll hM hS
        go_wp2_with fail
        refine (rOpenS _ _ _ _ _ _ hr).mono ?_
        rintro e w5 ⟨y, q, rfl, hO, hb5⟩
        have HO : Hid (Kop s x y q) := .inr ⟨l, HF.out, by rw [HN.out, HT.out]; exact hO⟩
        have hbw5 := hbw2.trans (hb5.mono hbw2.size)
        clear hr hb5 hO
        go_wp2
        go_ret2
        exact ⟨y, q, rfl, HO.out, hbw5⟩
end Go.Proofs.Ytgmelcdgnjcojac

namespace Go.Proofs.Ytgmelcdgnjcojac
open Go.RowKit Crm

set_option maxRecDepth 100000 in
theorem iIndexF (a : Option Addr) (n c : Nat) (ts : List Int) (x : Int) (w : World) (h : RdI w a n c ts) (hno : ∀ j, j < n → ts.getD j 0 ≠ x) :
    Calls Try.prog 76 #[.slice a n c, .int .i64 x] w fun e w' => e = .returned (.int .i64 (-1)) ∧ w' = w := by
  have hcap := h.cap
  have hmax := h.max
  unfold maxLen at hmax
  have HNO : Hid (∀ j, j < n → ts.getD j 0 ≠ x) := hno
  clear hno
  go_enter Try.func76, Try.ntmps76
  go_wp2
  go_loop [8] (fun i => ∃ k : Nat, k ≤ n ∧ i = .int .i64 k) (fun i => n - (intOf i).toNat)
  case atStart => exact ⟨0, Nat.zero_le _, rfl⟩
  case round =>
    obtain ⟨k, hk, rfl⟩ := hrel
    by_cases hlt : k < n
    · obtain ⟨b, o, y, rfl, hbb, HY, hy0, hy1, hcy⟩ := h.one hlt
      have hxb : (x == y) = false := by rw [beq_eq_false_iff_ne]; exact fun e => HNO.out k hlt (by rw [HY.out, e])
      go_wp2
      go_round
      case rel => exact ⟨k + 1, by omega, by go_num⟩
      case measure => simp [intOf]; omega
    · go_wp2
      go_ret
      exact ⟨rfl, rfl⟩
set_option maxRecDepth 100000 in
theorem iIndexT (a : Option Addr) (n c : Nat) (ts : List Int) (x : Int) (w : World) (h : RdI w a n c ts) {j0 : Nat} (hj : j0 < n) (hx : ts.getD j0 0 = x) :
    Calls Try.prog 76 #[.slice a n c, .int .i64 x] w fun e w' => (∃ r : Nat, r ≤ n ∧ e = .returned (.int .i64 r)) ∧ w' = w := by
  have hcap := h.cap
  have hmax := h.max
  unfold maxLen at hmax
  have HX : Hid (ts.getD j0 0 = x) := hx
  clear hx
  go_enter Try.func76, Try.ntmps76
  go_wp2
  go_loop [8] (fun i => ∃ k : Nat, k ≤ j0 ∧ i = .int .i64 k) (fun i => n - (intOf i).toNat)
  case atStart => exact ⟨0, Nat.zero_le _, rfl⟩
  case round =>
    obtain ⟨k, hk, rfl⟩ := hrel
    obtain ⟨b, o, y, rfl, hbb, HY, hy0, hy1, hcy⟩ := h.one (show k < n by omega)
    by_cases hxy : x = y
    · have hxb : (x == y) = true := by rw [beq_iff_eq]; exact hxy
      clear hxy
      go_wp2
      go_ret
      exact ⟨⟨k, by omega, rfl⟩, rfl⟩
    · have hxb : (x == y) = false := by rw [beq_eq_false_iff_ne]; exact hxy
      have hkj : k < j0 := by
        rcases Nat.lt_or_ge k j0 with h' | h'
        · exact h'
        · exfalso
          obtain rfl : k = j0 := by omega
          exact hxy (by rw [← HX.out, HY.out])
      clear hxy
      go_wp2
      go_round
      case rel => exact ⟨k + 1, by omega, by go_num⟩
      case measure => simp [intOf]; omega
set_option maxRecDepth 100000 in
theorem iContF (a : Option Addr) (n c : Nat) (ts : List Int) (x : Int) (w : World) (h : RdI w a n c ts) (hno : ∀ j, j < n → ts.getD j 0 ≠ x) :
    Calls Try.prog 61 #[.slice a n c, .int .i64 x] w fun e w' => e = .returned (.bool false) ∧ w' = w := by
  have HNO : Hid (∀ j, j < n → ts.getD j 0 ≠ x) := hno
  clear hno
  go_enter Try.func61, Try.ntmps61
  go_wp2_with (go_at_call 76; refine (iIndexF _ _ _ _ _ _ h HNO.out).mono ?_; rintro e w3 ⟨rfl, hw⟩; have hw := hw.symm; subst hw)
  go_ret
  exact ⟨rfl, rfl⟩
set_option maxRecDepth 100000 in
theorem iContT (a : Option Addr) (n c : Nat) (ts : List Int) (x : Int) (w : World) (h : RdI w a n c ts) {j0 : Nat} (hj : j0 < n) (hx : ts.getD j0 0 = x) :
    Calls Try.prog 61 #[.slice a n c, .int .i64 x] w fun e w' => e = .returned (.bool true) ∧ w' = w := by
  have hcap := h.cap
  have hmax := h.max
  unfold maxLen at hmax
  have HX : Hid (ts.getD j0 0 = x) := hx
  clear hx
  go_enter Try.func61, Try.ntmps61
  go_wp2_with (go_at_call 76; refine (iIndexT _ _ _ _ _ _ h hj HX.out).mono ?_; rintro e w3 ⟨⟨r, hr, rfl⟩, hw⟩; have hw := hw.symm; subst hw)
  go_ret
  exact ⟨rfl, rfl⟩
end Go.Proofs.Ytgmelcdgnjcojac

namespace Go.Proofs.Ytgmelcdgnjcojac
open Go.RowKit Crm

set_option maxRecDepth 100000 in
set_option maxHeartbeats 1000000 in
theorem rParties (a : Option Addr) (n c : Nat) (ts : List Int) (w : World) (h : RdI w a n c ts) :
    Calls Try.prog 39 #[.slice a n c] w fun e w' => Tells (0 < n ∧ dis (fi ts) n) w e w' := by
  have hcap := h.cap
  have hmax := h.max
  have hlen := h.len
  unfold maxLen at hmax
  go_enter Try.func39, Try.ntmps39
  go_wp2
  go_loopw [3] (fun i wr => ∃ k : Nat, k ≤ n ∧ i = .int .i64 k ∧ Hid (dis (fi ts) k) ∧ Below w.heap.size w wr) (fun i _ => n - (intOf i).toNat)
  case atStart => exact ⟨0, Nat.zero_le _, rfl, dis_zero _, Below.refl _ _⟩
  case round =>
    obtain ⟨k, hk, rfl, HK, hbel⟩ := hrel
    by_cases hlt : k < n
    · have hI := h.below hbel
      have hT := hI.take (k := k) (by omega)
      have HG : Hid (∀ j, j < k → (ts.take k).getD j 0 = ts.getD j 0) := fun j hj => by simp [hj]
      obtain ⟨b, o, x, rfl, hbb, HX, hx0, hx1, hcx⟩ := hI.one hlt
      by_cases hx : x < 1 ∨ 9 < x
      · have HN : Hid (¬ (0 < n ∧ dis (fi ts) n)) := fun hh => by have := (hh.2 k hlt).1; unfold fi at this; rw [HX.out] at this; omega
        have HX2 : Hid (x < 1 ∨ 9 < x) := hx
        clear hx
        go_wp2
        go_quiet ((go_at_call 13; exact Calls.quiet_of_same (rInN _ _ _ _ HX2.out)))
        all_goals
          go_wp2
          go_ret
          exact .no HN.out (drewN_below hbel _)
      · by_cases hj : ∃ j, j < k ∧ ts.getD j 0 = x
        · obtain ⟨j, hj, he⟩ := hj
          have HN : Hid (¬ (0 < n ∧ dis (fi ts) n)) := fun hh => (hh.2 k hlt).2 j hj (by unfold fi; rw [he, HX.out])
          have HE : Hid ((ts.take k).getD j 0 = x) := by unfold Hid; rw [HG.out j hj]; exact he
          clear he
          have hTd := fun q => RdI.drewN hT q
          go_wp2
          go_quiet ((first | (go_at_call 13; exact Calls.quiet_of_same (rInY _ _ _ _ (by omega) (by omega))) | (go_at_call 61; exact Calls.quiet_of_same (iContT _ _ _ _ _ _ (hTd _) hj HE.out))))
          all_goals
            go_wp2
            go_ret
            exact .no HN.out (drewN_below hbel _)
        · have HNO : Hid (∀ j, j < k → ts.getD j 0 ≠ x) := fun j hj' e => hj ⟨j, hj', e⟩
          have HNO2 : Hid (∀ j, j < k → (ts.take k).getD j 0 ≠ x) := fun j hj' => by rw [HG.out j hj']; exact HNO.out j hj'
          have HK2 : Hid (dis (fi ts) (k + 1)) := dis_succ HK.out HX.out (by omega) (by omega) HNO.out
          have hTd := fun q => RdI.drewN hT q
          clear hj
          go_wp2
          go_quiet ((first | (go_at_call 13; exact Calls.quiet_of_same (rInY _ _ _ _ (by omega) (by omega))) | (go_at_call 61; exact Calls.quiet_of_same (iContF _ _ _ _ _ _ (hTd _) HNO2.out))))
          all_goals
            go_wp2
            go_roundw
            case rel => exact ⟨k + 1, by omega, by go_num, HK2, drewN_below hbel _⟩
            case measure => simp [intOf]; omega
    · have hkn : k = n := by omega
      subst hkn
      by_cases hk0 : 0 < k
      · have HY : Hid (0 < k ∧ dis (fi ts) k) := ⟨hk0, HK.out⟩
        have hkb : decide ((0 : Int) < k) = true := by simp; omega
        go_wp2
        go_ret
        exact .yes HY.out hbel
      · obtain rfl : k = 0 := by omega
        have HY : Hid (¬ (0 < 0 ∧ dis (fi ts) 0)) := fun hh => by have := hh.1; omega
        go_wp2
        go_ret
        exact .no HY.out hbel
end Go.Proofs.Ytgmelcdgnjcojac
