/- croftref.Ats at 9, Shares, Fit, Open. · croftref.Fit, croftref.Open. · decode.misses. -/
import Derived.Test.YtljlioglpaogdabToRows2
import Derived.Test.YtljlioglpaogdabToDivF
import Derived.Test.YtljlioglpaogdabSortC
import Derived.Test.YtljlioglpaogdabToJoinC
namespace Go.Proofs.Ytljlioglpaogdab
set_option linter.unusedVariables false
set_option maxRecDepth 100000
set_option maxHeartbeats 8000000
section
open Crm Go.RowKit
theorem rAts9 (a : Option Addr) (n c : Nat) (l : List (Int × Int)) (w : World) (h : RdS w a n c l) :
    Calls Try.prog 75 #[.slice a n c, .int .i64 9] w fun e w' => Tells (dis (fa l) n) w e w' := by
  have hlen := h.len
  have hcap := h.cap
  have hmax := h.max
  unfold maxLen at hmax
  go_enter Try.func75, Try.ntmps75
  go_wp2
  go_loopw [5] (fun i wr => ∃ k : Nat, k ≤ n ∧ i = .int .i64 k ∧ Hid (dis (fa l) k) ∧ Below w.heap.size w wr) (fun i _ => n - (intOf i).toNat)
  case atStart => exact ⟨0, Nat.zero_le _, rfl, dis_zero _, Below.refl _ _⟩
  case round =>
    obtain ⟨k, hk, rfl, HK, hbel⟩ := hrel
    by_cases hlt : k < n
    · have hR := h.below hbel
      obtain ⟨b, o, x, y, rfl, hbb, HX, HY, hx0, hx1, hy0, hy1, hcx, hcy⟩ := hR.one hlt
      by_cases hx2 : x < 1 ∨ 9 < x
      · have HN : Hid (¬ dis (fa l) n) := fun hk => by have := (hk k hlt).1; unfold fa at this; rw [HX.out] at this; omega
        have HX2 : Hid (x < 1 ∨ 9 < x) := hx2
        clear hx2
        go_wp2_with (go_at_call 16; refine (rInN _ _ _ _ HX2.out).mono ?_; rintro e w' ⟨rfl, rfl⟩)
        go_ret
        exact .no HN.out hbel
      · go_wp2_with (go_at_call 16; refine (rInY _ _ _ _ (by omega) (by omega)).mono ?_; rintro e w' ⟨rfl, rfl⟩)
        go_loopw [6] (fun i wr => ∃ m : Nat, m ≤ k ∧ i = .int .i64 m ∧ Hid (∀ j, j < m → (l.getD j (0, 0)).1 ≠ x) ∧ Below w.heap.size w wr) (fun i _ => k - (intOf i).toNat)
        case atStart => exact ⟨0, Nat.zero_le _, rfl, fun j hj => by omega, hbel⟩
        case round =>
          obtain ⟨m, hm, rfl, HM, hbm⟩ := hrel
          by_cases hmk : m < k
          · have hR2 := h.below hbm
            obtain ⟨b', o', x', y', e', hbb', HX', HY', hx0', hx1', hy0', hy1', hcx', hcy'⟩ := hR2.one (show m < n by omega)
            simp only [Option.some.injEq, Addr.mk.injEq, and_true] at e'
            obtain ⟨rfl, rfl⟩ := e'
            obtain ⟨b'', o'', x'', y'', e'', _, HX'', _, _, _, _, _, hcx'', _⟩ := hR2.one hlt
            simp only [Option.some.injEq, Addr.mk.injEq, and_true] at e''
            obtain ⟨rfl, rfl⟩ := e''
            have e3 : x'' = x := HX''.out.symm.trans HX.out
            subst e3
            by_cases hxx : x' = x''
            · have HN : Hid (¬ dis (fa l) n) := fun hk => (hk k hlt).2 m hmk (by unfold fa; rw [HX'.out, HX.out]; exact hxx)
              have hxb : (x' == x'') = true := by rw [beq_iff_eq]; exact hxx
              clear hxx
              go_wp2
              go_region
              all_goals go_wp2
              all_goals
                go_ret
                exact .no HN.out (by first | exact hbm.drew | exact hbm.drew.drew)
            · have hxb : (x' == x'') = false := by rw [beq_eq_false_iff_ne]; exact hxx
              have HM2 : Hid (∀ j, j < m + 1 → (l.getD j (0, 0)).1 ≠ x'') := fun j hj => by
                by_cases e : j = m
                · rw [e, HX'.out]; exact hxx
                · exact HM.out j (by omega)
              clear hxx
              go_wp2
              go_region
              all_goals go_wp2
              all_goals
                go_roundw
                case rel => exact ⟨m + 1, by omega, by go_num, HM2, by first | exact hbm.drew | exact hbm.drew.drew⟩
                case measure => simp [intOf]; omega
          · have hmk' : m = k := by omega
            subst hmk'
            have HK2 : Hid (dis (fa l) (m + 1)) := dis_succ HK.out HX.out (by omega) (by omega) HM.out
            go_wp2
            go_roundw
            case rel => exact ⟨m + 1, by omega, by go_num, HK2, hbm⟩
            case measure => simp [intOf]; omega
    · have hkn : k = n := by omega
      subst hkn
      go_wp2
      go_ret
      exact .yes HK.out hbel

theorem rShares (a : Option Addr) (n c : Nat) (l : List (Int × Int)) (t : Int) (w : World) (h : RdS w a n c l) :
    Calls Try.prog 38 #[.int .i64 t, .slice a n c] w fun e w' => ∃ r, e = .returned (.int .i64 r) ∧ She l n t r ∧ Below w.heap.size w w' := by
  have hcap := h.cap
  have hmax := h.max
  unfold maxLen at hmax
  go_enter Try.func38, Try.ntmps38
  by_cases ht : t < 0 ∨ 4 < t
  · have HT : Hid (t < 0 ∨ 4 < t) := ht
    clear ht
    go_wp2_with (go_at_call 16; refine (rInN _ _ _ _ HT.out).mono ?_; rintro e w' ⟨rfl, hw⟩; have hw := hw.symm; subst hw)
    go_ret
    exact ⟨1, rfl, Or.inl ⟨HT.out, rfl⟩, Below.refl _ _⟩
  · go_wp2_with fail
    refine (rInY _ _ _ _ (by omega) (by omega)).mono ?_
    rintro e w' ⟨rfl, hw⟩
    have hw := hw.symm
    subst hw
    go_wp2_with fail
    refine (rAts9 _ _ _ _ _ h).mono ?_
    rintro e w1 ⟨r, rfl, hr, hb1⟩
    have HR : Hid (r = true ↔ dis (fa l) n) := hr
    clear hr
    cases r with
    | false =>
      have HN : Hid (She l n t 5) := Or.inr (Or.inl ⟨⟨by omega, by omega⟩, fun hd => (by have := HR.out.2 hd; cases this), rfl⟩)
      go_wp2
      go_ret
      exact ⟨5, rfl, HN.out, hb1⟩
    | true =>
      by_cases hnt : (n : Int) ≤ t
      · have HN : Hid (She l n t 4) := Or.inr (Or.inr (Or.inl ⟨⟨by omega, by omega⟩, HR.out.1 rfl, hnt, rfl⟩))
        go_wp2
        go_ret
        exact ⟨4, rfl, HN.out, hb1⟩
      · have HN : Hid (She l n t 0) := Or.inr (Or.inr (Or.inr ⟨⟨by omega, by omega⟩, HR.out.1 rfl, by omega, rfl⟩))
        go_wp2
        go_ret
        exact ⟨0, rfl, HN.out, hb1⟩
theorem RdS.take {w : World} {a : Option Addr} {n c : Nat} {l : List (Int × Int)} (h : RdS w a n c l) {k : Nat} (hk : k ≤ n) : RdS w a k c (l.take k) := by
  have e : ∀ i, i < k → (l.take k).getD i (0, 0) = l.getD i (0, 0) := fun i hi => by simp [hi]
  refine ⟨by have := h.len; simp; omega, by have := h.cap; omega, h.max, fun i hi => ?_, h.nil, fun x hx i hi => ?_⟩
  · rw [e i hi]; exact h.bd i (by omega)
  · rw [e i hi]; exact h.cell x hx i (by omega)

/-- What Fit gives. -/
def FitsO (l : List (Int × Int)) (n m : Nat) (w : World) (e : Ending) (w' : World) : Prop :=
  ∃ (p : List Int) (ap : Option Addr) (cp : Nat) (B : List Int) (ab : Option Addr) (cb : Nat), e = .returned (.tuple #[.slice ap p.length cp, .slice ab (bdl l p n).length cb]) ∧ w'.ownsRow w.heap.size 28 1 (.slice ap p.length cp) p.length (p.map (Value.int .u64)) ∧ p.length ≤ m ∧ Hs l m p ∧ Nml p ∧
    w'.ownsRow w.heap.size 3 1 (.slice ab (bdl l p n).length cb) (bdl l p n).length (zns B) ∧ OuI (bdl l p n) B (bdl l p n).length ∧ Below w.heap.size w w'

theorem rFitO (a : Option Addr) (n c : Nat) (l : List (Int × Int)) (t : Nat) (w : World) (h : RdS w a n c l) (hd : dis (fa l) n) (ht : t < n) :
    Calls Try.prog 39 #[.int .i64 t, .slice a n c] w fun e w' => FitsO l n (t + 1) w e w' := by
  have hn9 := dis_nine hd
  have HD : Hid (dis (fa l) n) := hd
  clear hd
  have hcap := h.cap
  have hmax := h.max
  unfold maxLen at hmax
  have hT := h.take (k := t + 1) (by omega)
  have HOK : Hid (okk (l.take (t + 1)) (t + 1)) := by
    have h1 := dis_okk (dis_le HD.out (show t + 1 ≤ n by omega))
    have e : ∀ i, i < t + 1 → (l.take (t + 1)).getD i (0, 0) = l.getD i (0, 0) := fun i hi => by simp [hi]
    intro i hi
    rw [e i hi]
    refine ⟨(h1 i hi).1, fun j hj => ?_⟩
    rw [e j (by omega)]
    exact (h1 i hi).2 j hj
  go_enter Try.func39, Try.ntmps39
  go_wp2_with fail
  refine (rThroughO _ (t + 1) _ _ _ hT (by omega) HOK.out).mono ?_
  rintro e w2 ⟨p, ap, cp, rfl, hop, hLo, hb2⟩
  have hrp : Rd w2 ap p.length cp p := by
    obtain ⟨a2, c2, e2, hr, _⟩ := Rd.own hop (bd_u64 hLo.nml.bd)
    simp only [Value.slice.injEq, true_and] at e2
    obtain ⟨rfl, rfl⟩ := e2
    exact hr
  have HP : Hid (p.length ≤ t + 1 ∧ Hs l (t + 1) p ∧ Nml p) := by
    refine ⟨hLo.le, fun j hj => ?_, hLo.nml⟩
    have := hLo.val j hj
    rw [if_pos hj] at this
    have e : (l.take (t + 1)).getD j (0, 0) = l.getD j (0, 0) := by simp [hj]
    rwa [e] at this
  have hpl := hLo.le
  obtain ⟨N, hN⟩ : ∃ N, N = p.length := ⟨_, rfl⟩
  rw [← hN] at hrp hop hpl ⊢
  have HN : Hid (N = p.length) := hN
  clear hLo hT HOK hN
  have hs2 := hb2.size
  go_wp2
  go_loopw [7, 8] (fun v i wr => ∃ k : Nat, k ≤ n ∧ i = .int .i64 k ∧ wr.ownsRow w2.heap.size 3 1 v (bdl l p k).length (zns (bdl l p k)) ∧ Below w2.heap.size w2 wr) (fun _ i _ => n - (intOf i).toNat)
  case atStart => exact ⟨0, Nat.zero_le _, rfl, World.ownsRow_nil _ _ _ _, Below.refl _ _⟩
  case round =>
    obtain ⟨k, hk, rfl, hown, hbel⟩ := hrel
    have hbw : Below w.heap.size w wr := hb2.trans (hbel.mono hs2)
    have hs3 := hbel.size
    have hbk := bdl_le l p k
    by_cases hlt : k < n
    · obtain ⟨b, o, x, y, rfl, hbb, HX, HY, hx0, hx1, hy0, hy1, hcx, hcy⟩ := (h.below hbw).one hlt
      have hx9 := (HD.out k hlt).1
      unfold fa at hx9
      rw [HX.out] at hx9
      have hx1 := hx9.1
      have hx9 := hx9.2
      have hrp2 := hrp.below hbel
      have HWX : Hid (IntKind.u64.wrap x = x) := u64of_id hx1 (by omega)
      by_cases hm : nm (ev p x) = nm y
      · have hmb : (nm (ev p x) != nm y) = false := by rw [hm]; simp
        have HB : Hid (bdl l p (k + 1) = bdl l p k) := bdl_ok (by rw [HX.out, HY.out]; exact hm)
        clear hm
        go_wp2
        go_quiet ((first | (go_at_call 56; (first | rw [HWX.out] | skip); exact Calls.quiet_of_same (rEval _ _ _ _ _ _ (hrp2.drewN _) (by omega) (by omega) (by omega))) | (go_at_call 41; exact Calls.quiet_of_same (rNorm _ _ (by omega) (by omega)))))
        all_goals
          go_wp2
          go_roundw
          case rel => exact ⟨k + 1, by omega, by go_num, by rw [HB.out]; exact hown, drewN_below hbel _⟩
          case measure => simp [intOf]; omega
      · have hmb : (nm (ev p x) != nm y) = true := by rw [bne_iff_ne]; exact hm
        have HB : Hid (bdl l p (k + 1) = bdl l p k ++ [x]) := by
          have := bdl_bad (l := l) (p := p) (k := k) (by rw [HX.out, HY.out]; exact hm)
          rwa [HX.out] at this
        clear hm
        go_wp2
        go_quiet ((first | (go_at_call 56; (first | rw [HWX.out] | skip); exact Calls.quiet_of_same (rEval _ _ _ _ _ _ (hrp2.drewN _) (by omega) (by omega) (by omega))) | (go_at_call 41; exact Calls.quiet_of_same (rNorm _ _ (by omega) (by omega)))))
        have hcx2 : (wr.drewN nq).cell? ⟨b, o + k * 2, none⟩ = some (.int .i64 x) := hcx
        have hown2 : (wr.drewN nq).ownsRow w2.heap.size 3 1 u7 (bdl l p k).length (zns (bdl l p k)) := hown
        have hbel2 := drewN_below hbel nq
        have hsd : w2.heap.size ≤ (wr.drewN nq).heap.size := hs3
        generalize wr.drewN nq = wd at *
        go_wp2_with (at_builtin; refine wpList_appV Try.underlying24 infoZ rfl (by omega) _ rfl _ _ rfl w2.heap.size _ _ _ rfl hown2 (.int .i64 x) rfl rfl (by omega) hsd ?_; intro v' w7 hown7 hgr7 _; rw [zns_snoc, ← HB.out] at hown7; have hlB : (bdl l p k).length + 1 = (bdl l p (k + 1)).length := (by rw [HB.out]; simp); rw [hlB] at hown7; have hbel7 := hbel2.grown hgr7 hsd (fun j hj => (hown2.lt j hj).1); clear hgr7 hown2 hbel2 hlB)
        go_roundw
        case rel => exact ⟨k + 1, by omega, by go_num, hown7, hbel7⟩
        case measure => simp [intOf]; omega
    · have hkn : k = n := by omega
      subst hkn
      obtain ⟨ab, cb, rfl, hcb⟩ := own_slice hown
      obtain ⟨NB, HNB⟩ : ∃ NB, Hid ((bdl l p k).length = NB) := ⟨_, rfl⟩
      rw [HNB.out] at hown hcb hbk ⊢
      go_wp2_with fail
      refine (zSorts _ _ _ _ _ hown (by omega)).mono ?_
      rintro e w3 ⟨rfl, B, hO, hown3, hgr3⟩
      have hlt2 := hown.lt
      have hb3 : Below w2.heap.size w2 w3 := hbel.grown hgr3 hs3 (fun j hj => (hlt2 j hj).1)
      have hrp3 := own_below hop hb3
      have HO : Hid (OuI (bdl l p k) B NB) := hO
      have hown4 : w3.ownsRow w.heap.size 3 1 (.slice ab NB cb) NB (zns B) := by
        rcases hown3.2 with h' | ⟨g, cap, cur, e1, e2, e3⟩
        · exact ⟨hown3.1, Or.inl h'⟩
        · exact ⟨hown3.1, Or.inr ⟨g, cap, cur, e1, by omega, e3⟩⟩
      have hb4 := hb2.trans (hb3.mono hs2)
      clear hown hgr3 hlt2 hO hown3 hb3 hbel hbw
      go_wp2
      go_ret2
      refine ⟨p, ap, cp, B, ab, cb, ?_, ?_, HP.out.1, HP.out.2.1, HP.out.2.2, ?_, ?_, hb4⟩
      · rw [← HN.out, HNB.out]; rfl
      · rw [← HN.out]; exact hrp3
      · rw [HNB.out]; exact hown4
      · rw [HNB.out]; exact HO.out
theorem cMisses (ap : Option Addr) (m cp : Nat) (p : List Int) (a : Option Addr) (n c : Nat) (l : List (Int × Int)) (w : World) (hp : Rd w ap m cp p) (h : RdS w a n c l) (hm : m ≤ 40) (hd : dis (fa l) n) :
    Calls Try.prog 37 #[.slice ap m cp, .slice a n c] w fun e w' => ∃ (B : List Int) (ab : Option Addr) (cb : Nat), e = .returned (.slice ab (bdl l p n).length cb) ∧
      w'.ownsRow w.heap.size 3 1 (.slice ab (bdl l p n).length cb) (bdl l p n).length (zns B) ∧ OuI (bdl l p n) B (bdl l p n).length ∧ Below w.heap.size w w' := by
  have hn9 := dis_nine hd
  have HD : Hid (dis (fa l) n) := hd
  clear hd
  have hcap := h.cap
  have hmax := h.max
  unfold maxLen at hmax
  go_enter Try.func37, Try.ntmps37
  go_wp2
  go_loopw [5, 12] (fun v i wr => ∃ k : Nat, k ≤ n ∧ i = .int .i64 k ∧ wr.ownsRow w.heap.size 3 1 v (bdl l p k).length (zns (bdl l p k)) ∧ Below w.heap.size w wr) (fun _ i _ => n - (intOf i).toNat)
  case atStart => exact ⟨0, Nat.zero_le _, rfl, World.ownsRow_nil _ _ _ _, Below.refl _ _⟩
  case round =>
    obtain ⟨k, hk, rfl, hown, hbel⟩ := hrel
    have hs3 := hbel.size
    have hbk := bdl_le l p k
    by_cases hlt : k < n
    · obtain ⟨b, o, x, y, rfl, hbb, HX, HY, hx0, hx1, hy0, hy1, hcx, hcy⟩ := (h.below hbel).one hlt
      have hx9 := (HD.out k hlt).1
      unfold fa at hx9
      rw [HX.out] at hx9
      have hx1 := hx9.1
      have hx9 := hx9.2
      have hcA0 := cell_alloc0 wr (.int .i64 x) (.int .u64 y) 73
      have hcA1 := cell_alloc1 wr (.int .i64 x) (.int .u64 y) 73
      have hbA : Below w.heap.size w (wr.alloc (.cells #[.int .i64 x, .int .u64 y] 73)) := hbel.alloc hs3 _
      have hownA : (wr.alloc (.cells #[.int .i64 x, .int .u64 y] 73)).ownsRow w.heap.size 3 1 u5 (bdl l p k).length (zns (bdl l p k)) := hown.alloc _
      have hszA : (wr.alloc (.cells #[.int .i64 x, .int .u64 y] 73)).heap.size = wr.heap.size + 1 := by simp
      have hsA : w.heap.size ≤ (wr.alloc (.cells #[.int .i64 x, .int .u64 y] 73)).heap.size := by omega
      have hltA : wr.heap.size < (wr.alloc (.cells #[.int .i64 x, .int .u64 y] 73)).heap.size := by omega
      go_wp2_with fail
      generalize wr.alloc (.cells #[.int .i64 x, .int .u64 y] 73) = wd at *
      clear hszA
      have hpA := hp.below hbA
      refine (cEvalOK _ _ _ _ _ _ hpA (by omega) (by omega) (by omega)).mono ?_
      rintro e w2 ⟨rfl, hb2⟩
      have hcB0 : w2.cell? ⟨wr.heap.size, 0, none⟩ = some (.int .i64 x) := by rw [hb2.cell hltA]; exact hcA0
      have hcB1 : w2.cell? ⟨wr.heap.size, 1, none⟩ = some (.int .u64 y) := by rw [hb2.cell hltA]; exact hcA1
      have hownB := own_below hownA hb2
      have hbB := hbA.trans (hb2.mono hbA.size)
      have hsB := hbB.size
      clear hcx hcy hown hbel hcA0 hcA1 hbA hownA hpA hb2
      by_cases hm : nm (ev p x) = nm y
      · have hmb : (nm (ev p x) != nm y) = false := by rw [hm]; simp
        have HB : Hid (bdl l p (k + 1) = bdl l p k) := bdl_ok (by rw [HX.out, HY.out]; exact hm)
        clear hm
        go_wp2_with (go_at_call 73; refine (fNorm _ _ (by omega) (by omega)).mono ?_; rintro e w3 ⟨rfl, hw⟩; have hw := hw.symm; subst hw)
        go_roundw
        case rel => exact ⟨k + 1, by omega, by go_num, by rw [HB.out]; exact hownB, hbB⟩
        case measure => simp [intOf]; omega
      · have hmb : (nm (ev p x) != nm y) = true := by rw [bne_iff_ne]; exact hm
        have HB : Hid (bdl l p (k + 1) = bdl l p k ++ [x]) := by
          have := bdl_bad (l := l) (p := p) (k := k) (by rw [HX.out, HY.out]; exact hm)
          rwa [HX.out] at this
        clear hm
        go_wp2_with (first | (go_at_call 73; refine (fNorm _ _ (by omega) (by omega)).mono ?_; rintro e w3 ⟨rfl, hw⟩; have hw := hw.symm; subst hw) | (at_builtin; refine wpList_appV Try.underlying24 infoZ rfl (by omega) _ rfl _ _ rfl w.heap.size _ _ _ rfl hownB (.int .i64 x) rfl rfl (by omega) hsB ?_; intro v' w7 hown7 hgr7 _; rw [zns_snoc, ← HB.out] at hown7; have hlB : (bdl l p k).length + 1 = (bdl l p (k + 1)).length := (by rw [HB.out]; simp); rw [hlB] at hown7; have hbel7 := hbB.grown hgr7 hsB (fun j hj => (hownB.lt j hj).1); clear hgr7 hownB hbB hlB))
        go_roundw
        case rel => exact ⟨k + 1, by omega, by go_num, hown7, hbel7⟩
        case measure => simp [intOf]; omega
    · have hkn : k = n := by omega
      subst hkn
      obtain ⟨ab, cb, rfl, hcb⟩ := own_slice hown
      obtain ⟨NB, HNB⟩ : ∃ NB, Hid ((bdl l p k).length = NB) := ⟨_, rfl⟩
      rw [HNB.out] at hown hcb hbk ⊢
      go_wp2_with fail
      refine (zSorts _ _ _ _ _ hown (by omega)).mono ?_
      rintro e w3 ⟨rfl, B, hO, hown3, hgr3⟩
      have hlt2 := hown.lt
      have hb3 : Below w.heap.size w w3 := hbel.grown hgr3 hs3 (fun j hj => (hlt2 j hj).1)
      have HO : Hid (OuI (bdl l p k) B NB) := hO
      clear hown hgr3 hlt2 hO hbel
      go_wp2
      go_ret
      refine ⟨B, ab, cb, ?_, ?_, ?_, hb3⟩
      · rw [HNB.out]; rfl
      · rw [HNB.out]; exact hown3
      · rw [HNB.out]; exact HO.out
end
end Go.Proofs.Ytljlioglpaogdab
