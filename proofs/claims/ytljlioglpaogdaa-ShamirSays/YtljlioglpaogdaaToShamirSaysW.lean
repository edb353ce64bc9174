/- croftref.Ats at 9, Shares, Fit, Open. · croftref.Fit, croftref.Open. · The walk of croftlaw.ShamirSays. -/
import Derived.Test.YtljlioglpaogdaaToBadM
import Derived.Test.YtljlioglpaogdaaToRDealC
import Derived.Test.YtljlioglpaogdaaSortC
import Derived.Test.YtljlioglpaogdaaToContC
import Derived.Test.YtljlioglpaogdaaToRefWtC
namespace Go.Proofs.Ytljlioglpaogdaa
set_option linter.unusedVariables false
set_option maxRecDepth 100000
set_option maxHeartbeats 8000000
section
open Crm Go.RowKit
theorem rAts9 (a : Option Addr) (n c : Nat) (l : List (Int × Int)) (w : World) (h : RdS w a n c l) :
    Calls Try.prog 31 #[.slice a n c, .int .i64 9] w fun e w' => Tells (dis (fa l) n) w e w' := by
  have hlen := h.len
  have hcap := h.cap
  have hmax := h.max
  unfold maxLen at hmax
  go_enter Try.func31, Try.ntmps31
  go_wp2
  go_loopw [5] (fun i wr => ∃ k : Nat, k ≤ n ∧ i = .int .i64 k ∧ Hid (dis (fa l) k) ∧ Below w.heap.size w wr) (fun i _ => n - (intOf i).toNat)
  case atStart => exact ⟨0, Nat.zero_le _, rfl, dis_zero _, Below.refl _ _⟩
  case round =>
    obtain ⟨k, hk, rfl, HK, hbel⟩ := hrel
    by_cases hlt : k < n
    · have hR := h.below hbel
      obtain ⟨b, o, x, y, rfl, hbb, HX, HY, hx0, hx1, hy0, hy1, hcx, hcy⟩ := hR.one hlt
      by_cases hx2 : x < 1 ∨ 9 < x
      · have HN : Hid (¬ dis (fa l) n) := fun hk => by have := (hk k hlt).1; unfold fa at this; rw [HX.out] at this; omega
        have HX2 : Hid (x < 1 ∨ 9 < x) := hx2
        clear hx2
        go_wp2_with (go_at_call 56; refine (rInN _ _ _ _ HX2.out).mono ?_; rintro e w' ⟨rfl, rfl⟩)
        go_ret
        exact .no HN.out hbel
      · go_wp2_with (go_at_call 56; refine (rInY _ _ _ _ (by omega) (by omega)).mono ?_; rintro e w' ⟨rfl, rfl⟩)
        go_loopw [6] (fun i wr => ∃ m : Nat, m ≤ k ∧ i = .int .i64 m ∧ Hid (∀ j, j < m → (l.getD j (0, 0)).1 ≠ x) ∧ Below w.heap.size w wr) (fun i _ => k - (intOf i).toNat)
        case atStart => exact ⟨0, Nat.zero_le _, rfl, fun j hj => by omega, hbel⟩
        case round =>
          obtain ⟨m, hm, rfl, HM, hbm⟩ := hrel
          by_cases hmk : m < k
          · have hR2 := h.below hbm
            obtain ⟨b', o', x', y', e', hbb', HX', HY', hx0', hx1', hy0', hy1', hcx', hcy'⟩ := hR2.one (show m < n by omega)
            simp only [Option.some.injEq, Addr.mk.injEq, and_true] at e'
            obtain ⟨rfl, rfl⟩ := e'
            obtain ⟨b'', o'', x'', y'', e'', _, HX'', _, _, _, _, _, hcx'', _⟩ := hR2.one hlt
            simp only [Option.some.injEq, Addr.mk.injEq, and_true] at e''
            obtain ⟨rfl, rfl⟩ := e''
            have e3 : x'' = x := HX''.out.symm.trans HX.out
            subst e3
            by_cases hxx : x' = x''
            · have HN : Hid (¬ dis (fa l) n) := fun hk => (hk k hlt).2 m hmk (by unfold fa; rw [HX'.out, HX.out]; exact hxx)
              have hxb : (x' == x'') = true := by rw [beq_iff_eq]; exact hxx
              clear hxx
              go_wp2
              go_region
              all_goals go_wp2
              all_goals
                go_ret
                exact .no HN.out (by first | exact hbm.drew | exact hbm.drew.drew)
            · have hxb : (x' == x'') = false := by rw [beq_eq_false_iff_ne]; exact hxx
              have HM2 : Hid (∀ j, j < m + 1 → (l.getD j (0, 0)).1 ≠ x'') := fun j hj => by
                by_cases e : j = m
                · rw [e, HX'.out]; exact hxx
                · exact HM.out j (by omega)
              clear hxx
              go_wp2
              go_region
              all_goals go_wp2
              all_goals
                go_roundw
                case rel => exact ⟨m + 1, by omega, by go_num, HM2, by first | exact hbm.drew | exact hbm.drew.drew⟩
                case measure => simp [intOf]; omega
          · have hmk' : m = k := by omega
            subst hmk'
            have HK2 : Hid (dis (fa l) (m + 1)) := dis_succ HK.out HX.out (by omega) (by omega) HM.out
            go_wp2
            go_roundw
            case rel => exact ⟨m + 1, by omega, by go_num, HK2, hbm⟩
            case measure => simp [intOf]; omega
    · have hkn : k = n := by omega
      subst hkn
      go_wp2
      go_ret
      exact .yes HK.out hbel

theorem rShares (a : Option Addr) (n c : Nat) (l : List (Int × Int)) (t : Int) (w : World) (h : RdS w a n c l) :
    Calls Try.prog 48 #[.int .i64 t, .slice a n c] w fun e w' => ∃ r, e = .returned (.int .i64 r) ∧ She l n t r ∧ Below w.heap.size w w' := by
  have hcap := h.cap
  have hmax := h.max
  unfold maxLen at hmax
  go_enter Try.func48, Try.ntmps48
  by_cases ht : t < 0 ∨ 4 < t
  · have HT : Hid (t < 0 ∨ 4 < t) := ht
    clear ht
    go_wp2_with (go_at_call 56; refine (rInN _ _ _ _ HT.out).mono ?_; rintro e w' ⟨rfl, hw⟩; have hw := hw.symm; subst hw)
    go_ret
    exact ⟨1, rfl, Or.inl ⟨HT.out, rfl⟩, Below.refl _ _⟩
  · go_wp2_with fail
    refine (rInY _ _ _ _ (by omega) (by omega)).mono ?_
    rintro e w' ⟨rfl, hw⟩
    have hw := hw.symm
    subst hw
    go_wp2_with fail
    refine (rAts9 _ _ _ _ _ h).mono ?_
    rintro e w1 ⟨r, rfl, hr, hb1⟩
    have HR : Hid (r = true ↔ dis (fa l) n) := hr
    clear hr
    cases r with
    | false =>
      have HN : Hid (She l n t 5) := Or.inr (Or.inl ⟨⟨by omega, by omega⟩, fun hd => (by have := HR.out.2 hd; cases this), rfl⟩)
      go_wp2
      go_ret
      exact ⟨5, rfl, HN.out, hb1⟩
    | true =>
      by_cases hnt : (n : Int) ≤ t
      · have HN : Hid (She l n t 4) := Or.inr (Or.inr (Or.inl ⟨⟨by omega, by omega⟩, HR.out.1 rfl, hnt, rfl⟩))
        go_wp2
        go_ret
        exact ⟨4, rfl, HN.out, hb1⟩
      · have HN : Hid (She l n t 0) := Or.inr (Or.inr (Or.inr ⟨⟨by omega, by omega⟩, HR.out.1 rfl, by omega, rfl⟩))
        go_wp2
        go_ret
        exact ⟨0, rfl, HN.out, hb1⟩
theorem RdS.take {w : World} {a : Option Addr} {n c : Nat} {l : List (Int × Int)} (h : RdS w a n c l) {k : Nat} (hk : k ≤ n) : RdS w a k c (l.take k) := by
  have e : ∀ i, i < k → (l.take k).getD i (0, 0) = l.getD i (0, 0) := fun i hi => by simp [hi]
  refine ⟨by have := h.len; simp; omega, by have := h.cap; omega, h.max, fun i hi => ?_, h.nil, fun x hx i hi => ?_⟩
  · rw [e i hi]; exact h.bd i (by omega)
  · rw [e i hi]; exact h.cell x hx i (by omega)

/-- What Fit gives. -/
def FitsO (l : List (Int × Int)) (n m : Nat) (w : World) (e : Ending) (w' : World) : Prop :=
  ∃ (p : List Int) (ap : Option Addr) (cp : Nat) (B : List Int) (ab : Option Addr) (cb : Nat), e = .returned (.tuple #[.slice ap p.length cp, .slice ab (bdl l p n).length cb]) ∧ w'.ownsRow w.heap.size 22 1 (.slice ap p.length cp) p.length (p.map (Value.int .u64)) ∧ p.length ≤ m ∧ Hs l m p ∧ Nml p ∧
    w'.ownsRow w.heap.size 3 1 (.slice ab (bdl l p n).length cb) (bdl l p n).length (zns B) ∧ OuI (bdl l p n) B (bdl l p n).length ∧ Below w.heap.size w w'

theorem rFitO (a : Option Addr) (n c : Nat) (l : List (Int × Int)) (t : Nat) (w : World) (h : RdS w a n c l) (hd : dis (fa l) n) (ht : t < n) :
    Calls Try.prog 61 #[.int .i64 t, .slice a n c] w fun e w' => FitsO l n (t + 1) w e w' := by
  have hn9 := dis_nine hd
  have HD : Hid (dis (fa l) n) := hd
  clear hd
  have hcap := h.cap
  have hmax := h.max
  unfold maxLen at hmax
  have hT := h.take (k := t + 1) (by omega)
  have HOK : Hid (okk (l.take (t + 1)) (t + 1)) := by
    have h1 := dis_okk (dis_le HD.out (show t + 1 ≤ n by omega))
    have e : ∀ i, i < t + 1 → (l.take (t + 1)).getD i (0, 0) = l.getD i (0, 0) := fun i hi => by simp [hi]
    intro i hi
    rw [e i hi]
    refine ⟨(h1 i hi).1, fun j hj => ?_⟩
    rw [e j (by omega)]
    exact (h1 i hi).2 j hj
  go_enter Try.func61, Try.ntmps61
  go_wp2_with fail
  refine (rThroughO _ (t + 1) _ _ _ hT (by omega) HOK.out).mono ?_
  rintro e w2 ⟨p, ap, cp, rfl, hop, hLo, hb2⟩
  have hrp : Rd w2 ap p.length cp p := by
    obtain ⟨a2, c2, e2, hr, _⟩ := Rd.own hop (bd_u64 hLo.nml.bd)
    simp only [Value.slice.injEq, true_and] at e2
    obtain ⟨rfl, rfl⟩ := e2
    exact hr
  have HP : Hid (p.length ≤ t + 1 ∧ Hs l (t + 1) p ∧ Nml p) := by
    refine ⟨hLo.le, fun j hj => ?_, hLo.nml⟩
    have := hLo.val j hj
    rw [if_pos hj] at this
    have e : (l.take (t + 1)).getD j (0, 0) = l.getD j (0, 0) := by simp [hj]
    rwa [e] at this
  have hpl := hLo.le
  obtain ⟨N, hN⟩ : ∃ N, N = p.length := ⟨_, rfl⟩
  rw [← hN] at hrp hop hpl ⊢
  have HN : Hid (N = p.length) := hN
  clear hLo hT HOK hN
  have hs2 := hb2.size
  go_wp2
  go_loopw [7, 8] (fun v i wr => ∃ k : Nat, k ≤ n ∧ i = .int .i64 k ∧ wr.ownsRow w2.heap.size 3 1 v (bdl l p k).length (zns (bdl l p k)) ∧ Below w2.heap.size w2 wr) (fun _ i _ => n - (intOf i).toNat)
  case atStart => exact ⟨0, Nat.zero_le _, rfl, World.ownsRow_nil _ _ _ _, Below.refl _ _⟩
  case round =>
    obtain ⟨k, hk, rfl, hown, hbel⟩ := hrel
    have hbw : Below w.heap.size w wr := hb2.trans (hbel.mono hs2)
    have hs3 := hbel.size
    have hbk := bdl_le l p k
    by_cases hlt : k < n
    · obtain ⟨b, o, x, y, rfl, hbb, HX, HY, hx0, hx1, hy0, hy1, hcx, hcy⟩ := (h.below hbw).one hlt
      have hx9 := (HD.out k hlt).1
      unfold fa at hx9
      rw [HX.out] at hx9
      have hx1 := hx9.1
      have hx9 := hx9.2
      have hrp2 := hrp.below hbel
      have HWX : Hid (IntKind.u64.wrap x = x) := u64of_id hx1 (by omega)
      by_cases hm : nm (ev p x) = nm y
      · have hmb : (nm (ev p x) != nm y) = false := by rw [hm]; simp
        have HB : Hid (bdl l p (k + 1) = bdl l p k) := bdl_ok (by rw [HX.out, HY.out]; exact hm)
        clear hm
        go_wp2
        go_quiet ((first | (go_at_call 22; (first | rw [HWX.out] | skip); exact Calls.quiet_of_same (rEval _ _ _ _ _ _ (hrp2.drewN _) (by omega) (by omega) (by omega))) | (go_at_call 10; exact Calls.quiet_of_same (rNorm _ _ (by omega) (by omega)))))
        all_goals
          go_wp2
          go_roundw
          case rel => exact ⟨k + 1, by omega, by go_num, by rw [HB.out]; exact hown, drewN_below hbel _⟩
          case measure => simp [intOf]; omega
      · have hmb : (nm (ev p x) != nm y) = true := by rw [bne_iff_ne]; exact hm
        have HB : Hid (bdl l p (k + 1) = bdl l p k ++ [x]) := by
          have := bdl_bad (l := l) (p := p) (k := k) (by rw [HX.out, HY.out]; exact hm)
          rwa [HX.out] at this
        clear hm
        go_wp2
        go_quiet ((first | (go_at_call 22; (first | rw [HWX.out] | skip); exact Calls.quiet_of_same (rEval _ _ _ _ _ _ (hrp2.drewN _) (by omega) (by omega) (by omega))) | (go_at_call 10; exact Calls.quiet_of_same (rNorm _ _ (by omega) (by omega)))))
        have hcx2 : (wr.drewN nq).cell? ⟨b, o + k * 2, none⟩ = some (.int .i64 x) := hcx
        have hown2 : (wr.drewN nq).ownsRow w2.heap.size 3 1 u7 (bdl l p k).length (zns (bdl l p k)) := hown
        have hbel2 := drewN_below hbel nq
        have hsd : w2.heap.size ≤ (wr.drewN nq).heap.size := hs3
        generalize wr.drewN nq = wd at *
        go_wp2_with (at_builtin; refine wpList_appV Try.underlying51 infoZ rfl (by omega) _ rfl _ _ rfl w2.heap.size _ _ _ rfl hown2 (.int .i64 x) rfl rfl (by omega) hsd ?_; intro v' w7 hown7 hgr7 _; rw [zns_snoc, ← HB.out] at hown7; have hlB : (bdl l p k).length + 1 = (bdl l p (k + 1)).length := (by rw [HB.out]; simp); rw [hlB] at hown7; have hbel7 := hbel2.grown hgr7 hsd (fun j hj => (hown2.lt j hj).1); clear hgr7 hown2 hbel2 hlB)
        go_roundw
        case rel => exact ⟨k + 1, by omega, by go_num, hown7, hbel7⟩
        case measure => simp [intOf]; omega
    · have hkn : k = n := by omega
      subst hkn
      obtain ⟨ab, cb, rfl, hcb⟩ := own_slice hown
      obtain ⟨NB, HNB⟩ : ∃ NB, Hid ((bdl l p k).length = NB) := ⟨_, rfl⟩
      rw [HNB.out] at hown hcb hbk ⊢
      go_wp2_with fail
      refine (zSorts _ _ _ _ _ hown (by omega)).mono ?_
      rintro e w3 ⟨rfl, B, hO, hown3, hgr3⟩
      have hlt2 := hown.lt
      have hb3 : Below w2.heap.size w2 w3 := hbel.grown hgr3 hs3 (fun j hj => (hlt2 j hj).1)
      have hrp3 := own_below hop hb3
      have HO : Hid (OuI (bdl l p k) B NB) := hO
      have hown4 : w3.ownsRow w.heap.size 3 1 (.slice ab NB cb) NB (zns B) := by
        rcases hown3.2 with h' | ⟨g, cap, cur, e1, e2, e3⟩
        · exact ⟨hown3.1, Or.inl h'⟩
        · exact ⟨hown3.1, Or.inr ⟨g, cap, cur, e1, by omega, e3⟩⟩
      have hb4 := hb2.trans (hb3.mono hs2)
      clear hown hgr3 hlt2 hO hown3 hb3 hbel hbw
      go_wp2
      go_ret2
      refine ⟨p, ap, cp, B, ab, cb, ?_, ?_, HP.out.1, HP.out.2.1, HP.out.2.2, ?_, ?_, hb4⟩
      · rw [← HN.out, HNB.out]; rfl
      · rw [← HN.out]; exact hrp3
      · rw [HNB.out]; exact hown4
      · rw [HNB.out]; exact HO.out

/-- What Fit gives, to be read. -/
def Fits (l : List (Int × Int)) (n m : Nat) (w : World) (e : Ending) (w' : World) : Prop :=
  ∃ (p : List Int) (ap : Option Addr) (cp : Nat) (B : List Int) (ab : Option Addr) (cb : Nat), e = .returned (.tuple #[.slice ap p.length cp, .slice ab (bdl l p n).length cb]) ∧ Rd w' ap p.length cp p ∧ p.length ≤ m ∧ Hs l m p ∧ Nml p ∧
    w'.ownsRow w.heap.size 3 1 (.slice ab (bdl l p n).length cb) (bdl l p n).length (zns B) ∧ OuI (bdl l p n) B (bdl l p n).length ∧ Below w.heap.size w w'
theorem rFit (a : Option Addr) (n c : Nat) (l : List (Int × Int)) (t : Nat) (w : World) (h : RdS w a n c l) (hd : dis (fa l) n) (ht : t < n) :
    Calls Try.prog 61 #[.int .i64 t, .slice a n c] w fun e w' => Fits l n (t + 1) w e w' := by
  refine (rFitO _ _ _ _ _ _ h hd ht).mono ?_
  rintro e w' ⟨p, ap, cp, B, ab, cb, rfl, hown, h1, h2, h3, h4⟩
  obtain ⟨a2, c2, e2, hr, _⟩ := Rd.own hown (bd_u64 h3.bd)
  simp only [Value.slice.injEq, true_and] at e2
  obtain ⟨rfl, rfl⟩ := e2
  exact ⟨p, ap, cp, B, ab, cb, rfl, hr, h1, h2, h3, h4⟩

theorem rOpenS (a : Option Addr) (n c : Nat) (l : List (Int × Int)) (t : Int) (w : World) (h : RdS w a n c l) :
    Calls Try.prog 43 #[.int .i64 t, .slice a n c] w fun e w' => ∃ x r, e = .returned (.tuple #[.int .u64 x, .int .i64 r]) ∧ Opn l n t x r ∧ Below w.heap.size w w' := by
  go_enter Try.func43, Try.ntmps43
  go_wp2_with fail
  refine (rShares _ _ _ _ _ _ h).mono ?_
  rintro e w1 ⟨r, rfl, hS, hb1⟩
  by_cases hr : r = 0
  · subst hr
    have HS : Hid (She l n t 0) := hS
    obtain ⟨t0, t4, hd, htn, hn9⟩ := hS.ok
    have HD : Hid (dis (fa l) n) := hd
    clear hd hS
    obtain ⟨m, rfl⟩ : ∃ m : Nat, t = m := ⟨t.toNat, by omega⟩
    go_wp2_with fail
    refine (rFit _ _ _ _ m _ (h.below hb1) HD.out (by omega)).mono ?_
    rintro e w2 ⟨p, ap, cp, B, ab, cb, rfl, hrp, hpl, hHs, _, _, _, hb2⟩
    have HO : Hid (_ ∧ _) := opn_first HS.out rfl hpl hHs
    have HZ : Hid (_ ↔ _) := bdl_nil l p n
    have hbl := bdl_le l p n
    have hb12 := hb1.trans (hb2.mono hb1.size)
    obtain ⟨N, hN⟩ : ∃ N, N = p.length := ⟨_, rfl⟩
    rw [← hN] at hrp hpl ⊢
    obtain ⟨K, HK⟩ : ∃ K, Hid ((bdl l p n).length = K) := ⟨_, rfl⟩
    rw [HK.out] at HZ hbl ⊢
    clear hN hHs hb1 hb2
    by_cases hK : K = 0
    · have HN : Hid (Opn l n m (nm (ev p 0)) 0) := HO.out.1 (HZ.out.1 hK)
      clear HO HZ
      go_wp2_with (go_at_call 22; refine (rEval _ _ _ _ _ _ hrp (by omega) (by omega) (by omega)).mono ?_; rintro e w3 ⟨rfl, hw⟩; have hw := hw.symm; subst hw)
      go_ret2
      exact ⟨_, _, rfl, HN.out, hb12⟩
    · have HN : Hid (Opn l n m 0 6) := HO.out.2 (fun hh => hK (HZ.out.2 hh))
      clear HO HZ
      go_wp2
      go_ret2
      exact ⟨_, _, rfl, HN.out, hb12⟩
  · have hrb : (r != 0) = true := by rw [bne_iff_ne]; exact hr
    have HS : Hid (Opn l n t 0 r) := Or.inl ⟨hS, hr, rfl⟩
    clear hr hS
    go_wp2
    go_ret2
    exact ⟨_, _, rfl, HS.out, hb1⟩
/-- What Deal answers, whatever is handed in. -/
def Dls (D : List Int) (r : Int) (w : World) (e : Ending) (w' : World) : Prop := ∃ a k c, e = .returned (.tuple #[.slice a k c, .int .i64 r]) ∧ Rd w' a k c D ∧ Below w.heap.size w w'
theorem cDealS (s : Int) (a : Option Addr) (m c : Nat) (xs : List Int) (n : Int) (w : World) (h : Rd w a m c xs) (hs0 : 0 ≤ s) (hs1 : s ≤ 18446744073709551615) :
    ∃ D r, Calls Try.prog 40 #[.int .u64 s, .slice a m c, .int .i64 n] w (Dls D r w) ∧ ∀ w', Rd w' a m c xs → Calls Try.prog 41 #[.int .u64 s, .slice a m c, .int .i64 n] w' (Dls D r w') := by
  have hcap := h.cap
  have hmax := h.max
  unfold maxLen at hmax
  by_cases hb : 4 < m ∨ n ≤ m ∨ 9 < n
  · refine ⟨[], 1, (cDealE _ _ _ _ _ _ (by omega) hb).mono ?_, fun w' _ => (rDealE _ _ _ _ _ _ (by omega) hb).mono ?_⟩
    · rintro e w1 ⟨rfl, rfl⟩
      exact ⟨none, 0, 0, rfl, nil_rd _, Below.refl _ _⟩
    · rintro e w1 ⟨rfl, rfl⟩
      exact ⟨none, 0, 0, rfl, nil_rd _, Below.refl _ _⟩
  · obtain ⟨k, rfl⟩ : ∃ k : Nat, n = k := ⟨n.toNat, by omega⟩
    refine ⟨dl (s :: xs) k, 0, (cDealOK _ _ _ _ _ k _ h hs0 hs1 (by omega) (by omega) (by omega)).mono ?_, fun w' h' => (rDealOK _ _ _ _ _ k _ h' hs0 hs1 (by omega) (by omega) (by omega)).mono ?_⟩
    · rintro e w1 ⟨g, rfl, hr, _, hb⟩
      exact ⟨_, _, _, rfl, hr, hb⟩
    · rintro e w1 ⟨a', c', rfl, hr, hb⟩
      exact ⟨_, _, _, rfl, hr, hb⟩

/-- What Weights answers, whatever is handed in. -/
theorem cWeightsS (a : Option Addr) (n c : Nat) (ts : List Int) (w : World) (h : RdI w a n c ts) :
    Calls Try.prog 44 #[.slice a n c] w fun e w' => ∃ W r, Dls W r w e w' ∧ ((0 < n ∧ dis (fi ts) n) → W = wtl ts n n ∧ r = 0) ∧ (¬ (0 < n ∧ dis (fi ts) n) → W = [] ∧ r = 5) := by
  by_cases hn : 0 < n
  · refine (cWeights1 _ _ _ _ _ h hn).mono ?_
    rintro e w1 ⟨⟨hd, rfl⟩ | ⟨hd, g, rfl, hr, _⟩, hb⟩
    · exact ⟨[], 5, ⟨none, 0, 0, rfl, nil_rd _, hb⟩, fun hh => absurd hh.2 hd, fun _ => ⟨rfl, rfl⟩⟩
    · exact ⟨_, 0, ⟨_, _, _, rfl, hr, hb⟩, fun _ => ⟨rfl, rfl⟩, fun hh => absurd ⟨hn, hd⟩ hh⟩
  · obtain rfl : n = 0 := by omega
    refine (cWeights0 _ _ _).mono ?_
    rintro e w1 ⟨rfl, rfl⟩
    exact ⟨[], 5, ⟨none, 0, 0, rfl, nil_rd _, Below.refl _ _⟩, fun hh => absurd hh.1 hn, fun _ => ⟨rfl, rfl⟩⟩

theorem shamirSaysW (s : Int) (a0 : Option Addr) (n0 c0 : Nat) (xs : List Int) (n t : Int) (a1 : Option Addr) (n1 c1 : Nat) (l : List (Int × Int)) (a2 : Option Addr) (n2 c2 : Nat) (ts : List Int) (w : World)
    (hs0 : 0 ≤ s) (hs1 : s ≤ 18446744073709551615) (h0 : Rd w a0 n0 c0 xs) (h1 : RdS w a1 n1 c1 l) (h2 : RdI w a2 n2 c2 ts) :
    Calls Try.prog 8 #[.int .u64 s, .slice a0 n0 c0, .int .i64 n, .int .i64 t, .slice a1 n1 c1, .slice a2 n2 c2] w fun e w' => e = .returned (.bool true) ∧ Below w.heap.size w w' := by
  obtain ⟨D, rd, hD1, hD2⟩ := cDealS s a0 n0 c0 xs n w h0 hs0 hs1
  go_enter Try.func8, Try.ntmps8
  go_wp2_with fail
  refine hD1.mono ?_
  rintro e w1 ⟨ad, kd, cd, rfl, hrd, hb1⟩
  clear hD1
  go_wp2_with fail
  refine (hD2 _ (h0.below hb1)).mono ?_
  rintro e w2 ⟨ae, ke, ce, rfl, hre, hb2⟩
  have hw2 := hb1.trans (hb2.mono hb1.size)
  have hrd2 := hrd.below hb2
  clear hD2 hrd hb1 hb2 h0
  go_wp2_with fail
  refine (cOpenS _ _ _ _ _ _ (h1.below hw2)).mono ?_
  rintro e w3 ⟨x, ro, rfl, hO1, hb3⟩
  have HO1 : Hid (Opn l n1 t x ro) := hO1
  have hw3 := hw2.trans (hb3.mono hw2.size)
  have hrd3 := hrd2.below hb3
  have hre3 := hre.below hb3
  clear hO1 hrd2 hre hb3 hw2
  go_wp2_with fail
  refine (rOpenS _ _ _ _ _ _ (h1.below hw3)).mono ?_
  rintro e w4 ⟨y, rp, rfl, hO2, hb4⟩
  obtain ⟨rfl, rfl⟩ := HO1.out.one hO2
  have hw4 := hw3.trans (hb4.mono hw3.size)
  have hrd4 := hrd3.below hb4
  have hre4 := hre3.below hb4
  clear HO1 hO2 hrd3 hre3 hb4 hw3
  go_wp2_with fail
  refine (cWeightsS _ _ _ _ _ (h2.below hw4)).mono ?_
  rintro e w5 ⟨W, rw_, ⟨aw, kw, cw, rfl, hrw, hb5⟩, hWY, hWN⟩
  have HWY : Hid ((0 < n2 ∧ dis (fi ts) n2) → W = wtl ts n2 n2 ∧ rw_ = 0) := hWY
  have HWN : Hid (¬ (0 < n2 ∧ dis (fi ts) n2) → W = [] ∧ rw_ = 5) := hWN
  have hw5 := hw4.trans (hb5.mono hw4.size)
  have hrd5 := hrd4.below hb5
  have hre5 := hre4.below hb5
  clear hWY hWN hrd4 hre4 hb5 hw4
  go_wp2_with fail
  refine (rParties _ _ _ _ _ (h2.below hw5)).mono ?_
  rintro e w6 ⟨r, rfl, hr, hb6⟩
  have HR : Hid (r = true ↔ (0 < n2 ∧ dis (fi ts) n2)) := hr
  have hw6 := hw5.trans (hb6.mono hw5.size)
  have hrd6 := hrd5.below hb6
  have hre6 := hre5.below hb6
  have hrw6 := hrw.below hb6
  clear hr hrd5 hre5 hb6 hw5 hrw
  cases r with
  | false =>
    obtain ⟨rfl, rfl⟩ := HWN.out (fun hh => by have := HR.out.2 hh; cases this)
    clear HWY HWN HR
    go_wp2_with fail
    refine (cSame _ _ _ _ _ _ _ _ hrd6 hre6).mono ?_
    rintro e w7 ⟨rfl, hb7⟩
    have hw7 := hw6.trans (hb7.mono hw6.size)
    have hrw7 := hrw6.below hb7
    clear hrd6 hre6 hb7 hw6 hrw6
    go_wp2_with fail
    refine (cCheckS _ _ _ _ _ _ (h1.below hw7)).mono ?_
    rintro e w8 ⟨rc, rfl, hS1, hb8⟩
    have HS1 : Hid (She l n1 t rc) := hS1
    have hw8 := hw7.trans (hb8.mono hw7.size)
    have hrw8 := hrw7.below hb8
    clear hS1 hb8 hw7 hrw7
    go_wp2_with fail
    refine (rShares _ _ _ _ _ _ (h1.below hw8)).mono ?_
    rintro e w9 ⟨rs, rfl, hS2, hb9⟩
    obtain rfl := HS1.out.one hS2
    have hw9 := hw8.trans (hb9.mono hw8.size)
    have hrw9 := hrw8.below hb9
    clear HS1 hS2 hb9 hw8 hrw8
    go_wp2_with fail
    refine (cSame _ _ _ _ _ _ _ _ hrw9 (nil_rd _)).mono ?_
    rintro e w10 ⟨rfl, hb10⟩
    have hw10 := hw9.trans (hb10.mono hw9.size)
    clear hb10 hw9 hrw9
    go_wp2
    go_ret
    exact ⟨rfl, hw10⟩
  | true =>
    have hP := HR.out.1 rfl
    obtain ⟨rfl, rfl⟩ := HWY.out hP
    have HD : Hid (dis (fi ts) n2) := hP.2
    clear HWY HWN HR hP
    go_wp2_with fail
    refine (rWeights _ _ _ _ _ (h2.below hw6) HD.out).mono ?_
    rintro e w11 ⟨av, cv, rfl, hrv, hb11⟩
    have hw11 := hw6.trans (hb11.mono hw6.size)
    have hrd11 := hrd6.below hb11
    have hre11 := hre6.below hb11
    have hrw11 := hrw6.below hb11
    clear hrd6 hre6 hb11 hw6 hrw6
    go_wp2_with fail
    refine (cSame _ _ _ _ _ _ _ _ hrd11 hre11).mono ?_
    rintro e w7 ⟨rfl, hb7⟩
    have hw7 := hw11.trans (hb7.mono hw11.size)
    have hrw7 := hrw11.below hb7
    have hrv7 := hrv.below hb7
    clear hrd11 hre11 hb7 hw11 hrw11 hrv
    go_wp2_with fail
    refine (cCheckS _ _ _ _ _ _ (h1.below hw7)).mono ?_
    rintro e w8 ⟨rc, rfl, hS1, hb8⟩
    have HS1 : Hid (She l n1 t rc) := hS1
    have hw8 := hw7.trans (hb8.mono hw7.size)
    have hrw8 := hrw7.below hb8
    have hrv8 := hrv7.below hb8
    clear hS1 hb8 hw7 hrw7 hrv7
    go_wp2_with fail
    refine (rShares _ _ _ _ _ _ (h1.below hw8)).mono ?_
    rintro e w9 ⟨rs, rfl, hS2, hb9⟩
    obtain rfl := HS1.out.one hS2
    have hw9 := hw8.trans (hb9.mono hw8.size)
    have hrw9 := hrw8.below hb9
    have hrv9 := hrv8.below hb9
    clear HS1 hS2 hb9 hw8 hrw8 hrv8
    go_wp2_with fail
    refine (cSame _ _ _ _ _ _ _ _ hrw9 hrv9).mono ?_
    rintro e w10 ⟨rfl, hb10⟩
    have hw10 := hw9.trans (hb10.mono hw9.size)
    clear hb10 hw9 hrw9 hrv9
    go_wp2
    go_ret
    exact ⟨rfl, hw10⟩
end
end Go.Proofs.Ytljlioglpaogdaa
