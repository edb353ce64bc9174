/- SolveC -/
import Derived.Test.YtljlioglpaogdacGreatDoorToRedC
import Derived.Test.YtljlioglpaogdacGreatDoorToChkC
namespace Go.Proofs.YtljlioglpaogdacGreatDoor
set_option linter.unusedVariables false
set_option maxRecDepth 100000
set_option maxHeartbeats 8000000
section
open Crm Go.RowKit
theorem rest_start {rs:List (List Int)} {M:Nat->List Int} {n W:Nat} (h:∀i j,i<n->j<W->(M i).getD j 0=nm (mat rs i j)):RrI (mat rs) (mtv M) n W 0 []:=
 rr_start λi j hi hj=>by show nm ((M i).getD j 0)=_;rw [h i j hi hj];exact nm_nm _
def Solved (M:Nat->Nat->Int) (n k:Nat) (w:World) (e:Ending) (w':World):Prop:=
 ((¬ dep M n k/\e = .returned (.tuple #[.slice none 0 0,.int .i64 4]))\/(∃g V,dep M n k/\e = .returned (.tuple #[.slice (some ⟨g,0,none⟩) k k,.int .i64 0])/\Sol M n k V/\Blk w' g V/\w.heap.size<=g))/\Below w.heap.size w w'
theorem cSolve1 (a n c) (k:Nat) (rs w) (h:RdR w a n c rs) (hc:chk rs n k = 0):
    Calls Tryz.prog 209 #[.slice a n c, .int .i64 k] w λe w' => Solved (mat rs) n k w e w' := by
  obtain ⟨i0, hi, aD, aE, aF⟩ := info_parts infoU
  obtain ⟨k', hk, aU, aV, hn, ay⟩ := chk_of hc
  have aG : k' = k := by omega
  subst aG
  have HC := hid hc
  clear hc hk
  go_enter Tryz.func209, Tryz.ntmps209
  go_wp2_with fail
  refine (cCheck _ _ _ rs _ _ h (by omega) (by omega)).mono ?_
  rintro e w' ⟨rfl, ab⟩
  have ab := ab.symm
  subst ab
  rw [HC.out]
  go_wp2_with fail
  refine (cRests _ _ _ (k' + 1) rs _ h ay (by omega) (by omega)).mono ?_
  rintro e w1 ⟨G, M, rfl, hM, ar, an⟩
  go_wp2_with fail
  refine (cReduce n k' _ _ _ G M (mat rs) _ hM (rest_start ar) (by omega) (by omega)).mono ?_
  rintro e w2 ⟨u, L, G2, N, rfl, ad, hN, hR, hf⟩
  obtain ⟨q, HQ⟩ := nmd L.length
  rw [HQ.out] at ad
  have aW : q <= n := by rw [<- HQ.out]; exact hR.kr
  obtain ⟨au, cu, rfl, aX⟩ := own_slice ad
  have ah : Below w.heap.size w w2 := an.trans (hf.below (by have := an.size; omega))
  have HR := hid hR
  obtain ⟨aY, aH⟩ := nmd w1.heap.size
  rw [aH.out] at hN ad
  have ao := ah.size
  clear hR hf hM ar an h
  go_wp2
  all_goals
    go_loopw [30] (λi wr => ∃ m : Nat, m <= n - q /\ i = .int .i64 m /\ Hid (∀ i, q <= i -> i < q + m -> (N i).getD k' 0 = 0) /\ wr = w2) (λi _ => (n - q) - (intOf i).toNat)
    case atStart => exact ⟨0, Nat.zero_le _, rfl, λi h1 h2 => by omega, rfl⟩
    case round =>
      obtain ⟨m, hm, rfl, HZ, ab⟩ := hrel
      have ab := ab.symm
      subst ab
      by_cases hlt : m < n - q
      · first
        | (exfalso; omega)
        | (skip
           have aZ : ¬ n = q := by omega
           have ai : q + m < n := by omega
           have a0 := hN.cell ai
           have aI := hN.num ai (show k' < k' + 1 by omega)
           have aJ := hN.nbd ai k'
           obtain ⟨x, HX⟩ := nmd ((N (q + m)).getD k' 0)
           rw [HX.out] at aI aJ
           by_cases hx : x = 0
           · have aj : Hid (∀ i, q <= i -> i < q + (m + 1) -> (N i).getD k' 0 = 0) := λi h1 h2 => by
               by_cases e : i = q + m
               · rw [e, HX.out, hx]
               · exact HZ.out i h1 (by omega)
             subst hx
             go_wp2
             go_roundw
             case rel => exact ⟨m + 1, by omega, by go_num, aj, by trivial⟩
             case measure => simp [intOf]; omega
           · have ap : (x == 0) = false := by rw [beq_eq_false_iff_ne]; exact hx
             have HD : Hid (¬ dep (mat rs) n k') := λhd => by
               have h1 := (rr_dep HR.out (by omega)).2 hd (q + m) (by rw [HQ.out]; omega) ai
               have h2 : nm ((N (q + m)).getD k' 0) = 0 := h1
               rw [HX.out, nm_small (by omega) (by omega)] at h2
               exact hx h2
             clear hx
             go_wp2
             go_ret2
             exact ⟨.inl ⟨HD.out, rfl⟩, ah⟩)
      · have a1 : m = n - q := by omega
        have aj : Hid (∀ i, L.length <= i -> i < n -> nm (mtv N i k') = 0) := λi h1 h2 => by
          rw [HQ.out] at h1
          show nm ((N i).getD k' 0) = 0
          rw [HZ.out i h1 (by omega)]; rfl
        have HD : Hid (dep (mat rs) n k') := (rr_dep HR.out (by omega)).1 aj.out
        obtain ⟨wo, aK⟩ : ∃ wo, wo = w2 := ⟨_, rfl⟩
        subst aK
        clear HZ
        have a2 : ¬ ((m : Int) < ((n - q : Nat) : Int)) := by omega
        go_wp2_with (at_make; refine wpList_make_full _ rfl _ _ 52 rfl wo.heap.size 70 i0 (.int .u64 0) 1 Tryz.underlying52 hi aD aE .i64 .i64 _ _ k' rfl rfl (by omega) (by omega) (by rw [aF]; omega) (by unfold maxLen; omega) (Nat.le_refl _) ?_; intro w3 ak al)
        have aL : Blk w3 wo.heap.size (List.replicate k' 0) := Blk.made ak
        have af : Below wo.heap.size wo w3 := (Below.refl _ _).grown al (Nat.le_refl _) (by simp)
        have az := ah.trans (af.mono ao)
        have ae := hN.below (af.mono hN.hw)
        have a3 := hN.hw
        clear ak al hN ah
        go_loopw [44] (λi wr => ∃ (m : Nat) (V : List Int), m <= q /\ i = .int .i64 m /\ V.length = k' /\ Hid (∀ x ∈ V, 0 <= x /\ x <= 2147483646) /\ Hid (∀ j, j < k' -> V.getD j 0 = tell (mtv N) L k' m j) /\ Blk wr wo.heap.size V /\ w3.grownBy wr (some wo.heap.size)) (λi _ => q - (intOf i).toNat)
        case atStart => exact ⟨0, _, Nat.zero_le _, rfl, by simp, λx hx => by rw [List.eq_of_mem_replicate hx]; omega, λj hj => by simp [tell, sm, hj], aL, World.grownBy.refl _ _⟩
        case round =>
          obtain ⟨t, V, ht, rfl, av, HB, HV, hV, hg⟩ := hrel
          by_cases htq : t < q
          · obtain ⟨gu, rfl, aS, aA, ag⟩ := ins_at ad htq
            have am : t < n := by omega
            have aM : L.getD t 0 < k' := HR.out.lt _ (getN_mem (by rw [HQ.out]; exact htq))
            obtain ⟨aa, aq⟩ := nmd (L.getD t 0)
            rw [aq.out] at ag aM
            have aT : wr.cell? ⟨gu, t, none⟩ = some (.int .i64 (aa : Int)) := hg.cell (by rw [af.cell aA]; exact ag) (by simp; omega)
            have aw := ae.cell am
            have a4 : wr.cell? ⟨w.heap.size, t, none⟩ = some (.slice (some ⟨G2 t, 0, none⟩) (k' + 1) (k' + 1)) := hg.cell aw (by simp; have := ae.gb; omega)
            have ax := ae.num am (show k' < k' + 1 by omega)
            have aN : wr.cell? ⟨G2 t, k', none⟩ = some (.int .u64 ((N t).getD k' 0)) := hg.cell ax (by simp; have := ae.rng t am; omega)
            have ap := ae.nbd am k'
            obtain ⟨x, HX⟩ := nmd ((N t).getD k' 0)
            rw [HX.out] at aN ap
            have a5 := hV.cell (i := aa) (by omega)
            have a6 := hV.frozen aa
            have aO := hV.set aa x
            have aP := grown_trans hg (grown_set wr wo.heap.size aa (.int .u64 x))
            have aQ : Hid (∀ y ∈ V.set aa x, 0 <= y /\ y <= 2147483646) := set_bd HB.out ap
            have aR : Hid (∀ j, j < k' -> (V.set aa x).getD j 0 = tell (mtv N) L k' (t + 1) j) := λj hj => by
              rw [tell_succ HR.out.up (by rw [HQ.out]; exact htq), getD_set, aq.out]
              by_cases e : aa = j
              · rw [if_pos ⟨e, by omega⟩, if_pos e, <- HX.out]; rfl
              · rw [if_neg (λhh => e hh.1), if_neg e]; exact HV.out j hj
            have aB : (V.set aa x).length = k' := by rw [List.length_set]; exact av
            clear HB HV hV hg aw ax ag ae ad
            go_wp2
            go_roundw
            case rel => exact ⟨t + 1, _, by omega, by go_num, aB, aQ, aR, aO, aP⟩
            case measure => simp [intOf]; omega
          · have aC : t = q := by omega
            subst aC
            have HS : Hid (Sol (mat rs) n k' V) := rr_sol HR.out aj.out av HB.out (by rw [HQ.out]; exact HV.out)
            go_wp2
            go_ret2
            exact ⟨.inr ⟨_, V, HD.out, rfl, HS.out, hV, ao⟩, below_grown az hg ao⟩
end
end Go.Proofs.YtljlioglpaogdacGreatDoor
