/- The walk of croftlaw.PolyThrough. -/
import Derived.Test.YtihiolnagcelkaaLagC
import Derived.Test.YtihiolnagcelkaaPolySaysW
namespace Go.Proofs.Ytihiolnagcelkaa
open Go.RowKit Crm

set_option maxHeartbeats 1000000 in
theorem polyThroughW (a0 : Option Addr) (len0 cap0 : Nat) (l : List (Int × Int)) (w : World) (h : RdS w a0 len0 cap0 l) :
    Calls Try.prog 6 #[.slice a0 len0 cap0] w fun e w' => e = .returned (.bool true) ∧ Below w.heap.size w w' := by
  have hm0 : len0 ≤ 9223372036854775807 := by have := h.cap; have := h.max; unfold maxLen at this; omega
  by_cases hn : 40 < len0
  · go_enter Try.func6, Try.ntmps6
    go_wp2_with (go_at_call 28; refine (cThroughL _ _ _ _ hm0 hn).mono ?_; rintro e w' ⟨rfl, rfl⟩)
    go_ret
    exact ⟨rfl, Below.refl _ _⟩
  · by_cases ho : okk l len0
    · have HO : Hid (okk l len0) := ho
      clear ho
      go_enter Try.func6, Try.ntmps6
      go_wp2_with fail
      refine (cThroughOK _ _ _ _ _ h (by omega) HO.out).mono ?_
      rintro e v1 ⟨S, g, rfl, hls, hbs, hvs, hr1, hv1⟩
      have HE : Hid (∀ p, LoI l len0 len0 p → trm S = p) := fun p hp => by
        have h1 := one_through h.len HO.out (p := S) (q := p) (by omega) hp.le hvs (fun j hj => by have := hp.val j hj; rwa [if_pos hj] at this)
        rw [nrm_id hp.nml] at h1
        rw [← h1]
        unfold nrm
        rw [nz_id hbs]
      clear hls hbs hvs
      obtain ⟨T, hT⟩ : ∃ T, T = tl S len0 := ⟨_, rfl⟩
      rw [← hT] at hr1 ⊢
      clear hT
      go_wp2_with fail
      refine (rAts _ _ _ _ _ (h.below hv1) (by omega)).mono ?_
      rintro e v2 ⟨r, rfl, hr, hv2⟩
      obtain rfl : r = true := hr.2 HO.out
      clear hr
      have hw2 := hv1.trans (hv2.mono hv1.size)
      go_wp2_with fail
      refine (rThrough _ _ _ _ _ (h.below hw2) (by omega) HO.out).mono ?_
      rintro e v3 ⟨p, a3, c3, rfl, hr3, hlo, hv3⟩
      have hw3 := hw2.trans (hv3.mono hw2.size)
      rw [HE.out p hlo] at hr1
      have hr1' := (hr1.below hv2).below hv3
      obtain ⟨P, hP⟩ : ∃ P, P = p.length := ⟨_, rfl⟩
      rw [← hP] at hr3 ⊢
      clear hr1 hP hlo hv1 hv2 hv3 hw2
      go_wp2_with fail
      refine (cSame _ _ _ _ _ _ _ _ hr1' hr3).mono ?_
      rintro e v4 ⟨rfl, hv4⟩
      have hw4 := hw3.trans (hv4.mono hw3.size)
      go_wp2
      go_ret
      exact ⟨rfl, hw4⟩
    · have HO : Hid (¬ okk l len0) := ho
      clear ho
      go_enter Try.func6, Try.ntmps6
      go_wp2_with fail
      refine (cThroughN _ _ _ _ _ h (by omega) HO.out).mono ?_
      rintro e v1 ⟨rfl, hv1⟩
      go_wp2_with fail
      refine (rAts _ _ _ _ _ (h.below hv1) (by omega)).mono ?_
      rintro e v2 ⟨r, rfl, hr, hv2⟩
      obtain rfl : r = false := by cases r with | false => rfl | true => exact absurd (hr.1 rfl) HO.out
      clear hr
      have hw2 := hv1.trans (hv2.mono hv1.size)
      go_wp2
      go_ret
      exact ⟨rfl, hw2⟩
end Go.Proofs.Ytihiolnagcelkaa
