/- croftref.Fit, croftref.Open. -/
import Derived.Test.YtljlioglpaogdabToBadM
import Derived.Test.YtljlioglpaogdabToOpenC
import Derived.Test.YtljlioglpaogdabToTEqC
import Derived.Test.YtljlioglpaogdabToRefPolyC
namespace Go.Proofs.Ytljlioglpaogdab
set_option linter.unusedVariables false
set_option maxRecDepth 100000
set_option maxHeartbeats 8000000
section
open Crm Go.RowKit
theorem RdS.take {w : World} {a : Option Addr} {n c : Nat} {l : List (Int × Int)} (h : RdS w a n c l) {k : Nat} (hk : k ≤ n) : RdS w a k c (l.take k) := by
  have e : ∀ i, i < k → (l.take k).getD i (0, 0) = l.getD i (0, 0) := fun i hi => by simp [hi]
  refine ⟨by have := h.len; simp; omega, by have := h.cap; omega, h.max, fun i hi => ?_, h.nil, fun x hx i hi => ?_⟩
  · rw [e i hi]; exact h.bd i (by omega)
  · rw [e i hi]; exact h.cell x hx i (by omega)

/-- What Fit gives. -/
def FitsO (l : List (Int × Int)) (n m : Nat) (w : World) (e : Ending) (w' : World) : Prop :=
  ∃ (p : List Int) (ap : Option Addr) (cp : Nat) (B : List Int) (ab : Option Addr) (cb : Nat), e = .returned (.tuple #[.slice ap p.length cp, .slice ab (bdl l p n).length cb]) ∧ w'.ownsRow w.heap.size 28 1 (.slice ap p.length cp) p.length (p.map (Value.int .u64)) ∧ p.length ≤ m ∧ Hs l m p ∧ Nml p ∧
    w'.ownsRow w.heap.size 3 1 (.slice ab (bdl l p n).length cb) (bdl l p n).length (zns B) ∧ OuI (bdl l p n) B (bdl l p n).length ∧ Below w.heap.size w w'

theorem rFitO (a : Option Addr) (n c : Nat) (l : List (Int × Int)) (t : Nat) (w : World) (h : RdS w a n c l) (hd : dis (fa l) n) (ht : t < n) :
    Calls Try.prog 39 #[.int .i64 t, .slice a n c] w fun e w' => FitsO l n (t + 1) w e w' := by
  have hn9 := dis_nine hd
  have HD : Hid (dis (fa l) n) := hd
  clear hd
  have hcap := h.cap
  have hmax := h.max
  unfold maxLen at hmax
  have hT := h.take (k := t + 1) (by omega)
  have HOK : Hid (okk (l.take (t + 1)) (t + 1)) := by
    have h1 := dis_okk (dis_le HD.out (show t + 1 ≤ n by omega))
    have e : ∀ i, i < t + 1 → (l.take (t + 1)).getD i (0, 0) = l.getD i (0, 0) := fun i hi => by simp [hi]
    intro i hi
    rw [e i hi]
    refine ⟨(h1 i hi).1, fun j hj => ?_⟩
    rw [e j (by omega)]
    exact (h1 i hi).2 j hj
  go_enter Try.func39, Try.ntmps39
  go_wp2_with fail
  refine (rThroughO _ (t + 1) _ _ _ hT (by omega) HOK.out).mono ?_
  rintro e w2 ⟨p, ap, cp, rfl, hop, hLo, hb2⟩
  have hrp : Rd w2 ap p.length cp p := by
    obtain ⟨a2, c2, e2, hr, _⟩ := Rd.own hop (bd_u64 hLo.nml.bd)
    simp only [Value.slice.injEq, true_and] at e2
    obtain ⟨rfl, rfl⟩ := e2
    exact hr
  have HP : Hid (p.length ≤ t + 1 ∧ Hs l (t + 1) p ∧ Nml p) := by
    refine ⟨hLo.le, fun j hj => ?_, hLo.nml⟩
    have := hLo.val j hj
    rw [if_pos hj] at this
    have e : (l.take (t + 1)).getD j (0, 0) = l.getD j (0, 0) := by simp [hj]
    rwa [e] at this
  have hpl := hLo.le
  obtain ⟨N, hN⟩ : ∃ N, N = p.length := ⟨_, rfl⟩
  rw [← hN] at hrp hop hpl ⊢
  have HN : Hid (N = p.length) := hN
  clear hLo hT HOK hN
  have hs2 := hb2.size
  go_wp2
  go_loopw [7, 8] (fun v i wr => ∃ k : Nat, k ≤ n ∧ i = .int .i64 k ∧ wr.ownsRow w2.heap.size 3 1 v (bdl l p k).length (zns (bdl l p k)) ∧ Below w2.heap.size w2 wr) (fun _ i _ => n - (intOf i).toNat)
  case atStart => exact ⟨0, Nat.zero_le _, rfl, World.ownsRow_nil _ _ _ _, Below.refl _ _⟩
  case round =>
    obtain ⟨k, hk, rfl, hown, hbel⟩ := hrel
    have hbw : Below w.heap.size w wr := hb2.trans (hbel.mono hs2)
    have hs3 := hbel.size
    have hbk := bdl_le l p k
    by_cases hlt : k < n
    · obtain ⟨b, o, x, y, rfl, hbb, HX, HY, hx0, hx1, hy0, hy1, hcx, hcy⟩ := (h.below hbw).one hlt
      have hx9 := (HD.out k hlt).1
      unfold fa at hx9
      rw [HX.out] at hx9
      have hx1 := hx9.1
      have hx9 := hx9.2
      have hrp2 := hrp.below hbel
      have HWX : Hid (IntKind.u64.wrap x = x) := u64of_id hx1 (by omega)
      by_cases hm : nm (ev p x) = nm y
      · have hmb : (nm (ev p x) != nm y) = false := by rw [hm]; simp
        have HB : Hid (bdl l p (k + 1) = bdl l p k) := bdl_ok (by rw [HX.out, HY.out]; exact hm)
        clear hm
        go_wp2
        go_quiet ((first | (go_at_call 56; (first | rw [HWX.out] | skip); exact Calls.quiet_of_same (rEval _ _ _ _ _ _ (hrp2.drewN _) (by omega) (by omega) (by omega))) | (go_at_call 41; exact Calls.quiet_of_same (rNorm _ _ (by omega) (by omega)))))
        all_goals
          go_wp2
          go_roundw
          case rel => exact ⟨k + 1, by omega, by go_num, by rw [HB.out]; exact hown, drewN_below hbel _⟩
          case measure => simp [intOf]; omega
      · have hmb : (nm (ev p x) != nm y) = true := by rw [bne_iff_ne]; exact hm
        have HB : Hid (bdl l p (k + 1) = bdl l p k ++ [x]) := by
          have := bdl_bad (l := l) (p := p) (k := k) (by rw [HX.out, HY.out]; exact hm)
          rwa [HX.out] at this
        clear hm
        go_wp2
        go_quiet ((first | (go_at_call 56; (first | rw [HWX.out] | skip); exact Calls.quiet_of_same (rEval _ _ _ _ _ _ (hrp2.drewN _) (by omega) (by omega) (by omega))) | (go_at_call 41; exact Calls.quiet_of_same (rNorm _ _ (by omega) (by omega)))))
        have hcx2 : (wr.drewN nq).cell? ⟨b, o + k * 2, none⟩ = some (.int .i64 x) := hcx
        have hown2 : (wr.drewN nq).ownsRow w2.heap.size 3 1 u7 (bdl l p k).length (zns (bdl l p k)) := hown
        have hbel2 := drewN_below hbel nq
        have hsd : w2.heap.size ≤ (wr.drewN nq).heap.size := hs3
        generalize wr.drewN nq = wd at *
        go_wp2_with (at_builtin; refine wpList_appV Try.underlying24 infoZ rfl (by omega) _ rfl _ _ rfl w2.heap.size _ _ _ rfl hown2 (.int .i64 x) rfl rfl (by omega) hsd ?_; intro v' w7 hown7 hgr7 _; rw [zns_snoc, ← HB.out] at hown7; have hlB : (bdl l p k).length + 1 = (bdl l p (k + 1)).length := (by rw [HB.out]; simp); rw [hlB] at hown7; have hbel7 := hbel2.grown hgr7 hsd (fun j hj => (hown2.lt j hj).1); clear hgr7 hown2 hbel2 hlB)
        go_roundw
        case rel => exact ⟨k + 1, by omega, by go_num, hown7, hbel7⟩
        case measure => simp [intOf]; omega
    · have hkn : k = n := by omega
      subst hkn
      obtain ⟨ab, cb, rfl, hcb⟩ := own_slice hown
      obtain ⟨NB, HNB⟩ : ∃ NB, Hid ((bdl l p k).length = NB) := ⟨_, rfl⟩
      rw [HNB.out] at hown hcb hbk ⊢
      go_wp2_with fail
      refine (zSorts _ _ _ _ _ hown (by omega)).mono ?_
      rintro e w3 ⟨rfl, B, hO, hown3, hgr3⟩
      have hlt2 := hown.lt
      have hb3 : Below w2.heap.size w2 w3 := hbel.grown hgr3 hs3 (fun j hj => (hlt2 j hj).1)
      have hrp3 := own_below hop hb3
      have HO : Hid (OuI (bdl l p k) B NB) := hO
      have hown4 : w3.ownsRow w.heap.size 3 1 (.slice ab NB cb) NB (zns B) := by
        rcases hown3.2 with h' | ⟨g, cap, cur, e1, e2, e3⟩
        · exact ⟨hown3.1, Or.inl h'⟩
        · exact ⟨hown3.1, Or.inr ⟨g, cap, cur, e1, by omega, e3⟩⟩
      have hb4 := hb2.trans (hb3.mono hs2)
      clear hown hgr3 hlt2 hO hown3 hb3 hbel hbw
      go_wp2
      go_ret2
      refine ⟨p, ap, cp, B, ab, cb, ?_, ?_, HP.out.1, HP.out.2.1, HP.out.2.2, ?_, ?_, hb4⟩
      · rw [← HN.out, HNB.out]; rfl
      · rw [← HN.out]; exact hrp3
      · rw [HNB.out]; exact hown4
      · rw [HNB.out]; exact HO.out
end
end Go.Proofs.Ytljlioglpaogdab
