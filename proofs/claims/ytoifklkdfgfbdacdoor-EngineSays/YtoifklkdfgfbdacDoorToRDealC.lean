/- croftref.Sum. · croftref.In, croftref.Ats. · croftref.Dealt, croftref.Deal. -/
import Derived.Test.YtoifklkdfgfbdacDoorToRefPolyC
import Derived.Test.YtoifklkdfgfbdacDoorToGatesR
import Derived.Test.YtoifklkdfgfbdacDoorToPlacedC
import Derived.Test.YtoifklkdfgfbdacDoorToDealC
namespace Go.Proofs.YtoifklkdfgfbdacDoor
open Go.RowKit Crm

def smk (ps qs : List Int) (k : Nat) : List Int := (List.range k).map fun i => nm (ps.getD i 0 + qs.getD i 0)
theorem smk_step (ps qs : List Int) (k : Nat) {v : Int} (e : v = nm (ps.getD k 0 + qs.getD k 0)) : smk ps qs k ++ [v] = smk ps qs (k + 1) := by
  unfold smk
  rw [List.range_succ, List.map_append, e]
  rfl
theorem smk_bd (ps qs : List Int) (k : Nat) : ∀ x ∈ smk ps qs k, 0 ≤ x ∧ x ≤ 18446744073709551615 := by
  intro x hx
  obtain ⟨k, _, rfl⟩ := List.mem_map.1 hx
  have := nm_bd (ps.getD k 0 + qs.getD k 0)
  omega

theorem own_base {w : World} {B B' n : Nat} {E : TypeId} {v : Value} {xs : List Value} (h : w.ownsRow B E 1 v n xs) (hB : B' ≤ B) : w.ownsRow B' E 1 v n xs := by
  rcases h.2 with h' | ⟨g, cap, cur, e1, e2, e3⟩
  · exact ⟨h.1, Or.inl h'⟩
  · exact ⟨h.1, Or.inr ⟨g, cap, cur, e1, by omega, e3⟩⟩

set_option maxRecDepth 100000 in
set_option maxHeartbeats 1000000 in
theorem rSumO (a : Option Addr) (n c : Nat) (xs : List Int) (b : Option Addr) (m d : Nat) (ys : List Int) (w : World) (h : Rd w a n c xs) (g : Rd w b m d ys) (hn : n ≤ 1000) (hm : m ≤ 1000) :
    Calls Tryd.prog 87 #[.slice a n c, .slice b m d] w fun e w' => ∃ a' c', e = .returned (.slice a' (nrm (sml xs ys)).length c') ∧ w'.ownsRow w.heap.size 43 1 (.slice a' (nrm (sml xs ys)).length c') (nrm (sml xs ys)).length ((nrm (sml xs ys)).map (Value.int .u64)) ∧ Below w.heap.size w w' := by
  have hlen := h.len
  have glen := g.len
  go_enter Tryd.func87, Tryd.ntmps87
  go_wp2
  go_loopw [5, 6] (fun v i wr => ∃ k : Nat, k ≤ max n m ∧ i = .int .i64 k ∧ wr.ownsRow w.heap.size 43 1 v k ((smk xs ys k).map (Value.int .u64)) ∧ Below w.heap.size w wr) (fun _ i _ => max n m - (intOf i).toNat)
  case atStart => exact ⟨0, Nat.zero_le _, rfl, World.ownsRow_nil _ _ _ _, Below.refl _ _⟩
  case round =>
    obtain ⟨k, hk, rfl, hown, hbel⟩ := hrel
    have hs1 := hbel.size
    by_cases h1 : k < n
    · obtain ⟨b1, o1, x, rfl, hbb, HX, hx0, hx1, hcx⟩ := (h.below hbel).one h1
      have hnx := nm_bd x
      by_cases h2 : k < m
      · obtain ⟨b2, o2, y, rfl, hbb2, HY, hy0, hy1, hcy⟩ := (g.below hbel).one h2
        have HV : Hid (nm (nm x + y) = nm (xs.getD k 0 + ys.getD k 0)) := by rw [HX.out, HY.out]; exact nm_addl _ _
        go_wp2_with (first | (go_at_call 46; refine (rAdd _ _ _ (by omega) (by omega) (by omega) (by omega)).mono ?_; rintro e w' ⟨rfl, hw⟩; have hw := hw.symm; subst hw) | (at_builtin; refine wpList_app1 Tryd.underlying31 infoR43 _ rfl _ _ rfl w.heap.size _ _ _ rfl hown _ rfl (by omega) (by omega) ?_; intro v' w3 hown3 hbel3; rw [smk_step xs ys k HV.out] at hown3; have hbel4 := hbel.trans hbel3; clear hown hbel hbel3))
        go_roundw
        case rel => exact ⟨k + 1, by omega, by go_num, hown3, hbel4⟩
        case measure => simp [intOf]; omega
      · have HV : Hid (nm x = nm (xs.getD k 0 + ys.getD k 0)) := by rw [HX.out, getD_big (show ys.length ≤ k by omega), Int.add_zero]; exact rfl
        go_wp2_with (first | (go_at_call 46; refine (rAdd _ _ _ (by omega) (by omega) (by omega) (by omega)).mono ?_; rintro e w' ⟨rfl, hw⟩; have hw := hw.symm; subst hw) | (at_builtin; refine wpList_app1 Tryd.underlying31 infoR43 _ rfl _ _ rfl w.heap.size _ _ _ rfl hown _ rfl (by omega) (by omega) ?_; intro v' w3 hown3 hbel3; rw [smk_step xs ys k HV.out] at hown3; have hbel4 := hbel.trans hbel3; clear hown hbel hbel3))
        go_roundw
        case rel => exact ⟨k + 1, by omega, by go_num, hown3, hbel4⟩
        case measure => simp [intOf]; omega
    · by_cases h2 : k < m
      · obtain ⟨b2, o2, y, rfl, hbb2, HY, hy0, hy1, hcy⟩ := (g.below hbel).one h2
        have HV : Hid (nm y = nm (xs.getD k 0 + ys.getD k 0)) := by rw [HY.out, getD_big (show xs.length ≤ k by omega), Int.zero_add]; exact rfl
        go_wp2_with (first | (go_at_call 46; refine (rAdd _ _ _ (by omega) (by omega) (by omega) (by omega)).mono ?_; rintro e w' ⟨rfl, hw⟩; have hw := hw.symm; subst hw) | (at_builtin; refine wpList_app1 Tryd.underlying31 infoR43 _ rfl _ _ rfl w.heap.size _ _ _ rfl hown _ rfl (by omega) (by omega) ?_; intro v' w3 hown3 hbel3; rw [smk_step xs ys k HV.out] at hown3; have hbel4 := hbel.trans hbel3; clear hown hbel hbel3))
        go_roundw
        case rel => exact ⟨k + 1, by omega, by go_num, hown3, hbel4⟩
        case measure => simp [intOf]; omega
      · obtain ⟨a', c', rfl, hr, hfr⟩ := Rd.own hown (smk_bd xs ys k)
        have HE : Hid (smk xs ys k = sml xs ys) := by unfold smk sml; rw [hlen, glen, show k = max n m by omega]; exact rfl
        have HK : Hid (k = (sml xs ys).length) := by rw [sml_len, hlen, glen]; unfold Hid; omega
        go_wp2_with fail
        refine (rNormalO _ _ _ _ _ hr (by omega)).mono ?_
        rintro e w2 ⟨a2, c2, rfl, hr2, hb2⟩
        rw [HE.out] at hr2 ⊢
        rw [HK.out, ← nrm_len] at hr2 ⊢
        have hr3 := own_base hr2 hs1
        clear hr2
        go_wp2
        go_ret
        exact ⟨a2, c2, rfl, hr3, hbel.trans (hb2.mono hs1)⟩
theorem rSum (a : Option Addr) (n c : Nat) (xs : List Int) (b : Option Addr) (m d : Nat) (ys : List Int) (w : World) (h : Rd w a n c xs) (g : Rd w b m d ys) (hn : n ≤ 1000) (hm : m ≤ 1000) :
    Calls Tryd.prog 87 #[.slice a n c, .slice b m d] w fun e w' => ∃ a' c', e = .returned (.slice a' (nrm (sml xs ys)).length c') ∧ Rd w' a' (nrm (sml xs ys)).length c' (nrm (sml xs ys)) ∧ Below w.heap.size w w' ∧ ∀ x, a' = some x → w.heap.size ≤ x.block := by
  refine (rSumO _ _ _ _ _ _ _ _ _ h g hn hm).mono ?_
  rintro e w' ⟨a', c', rfl, hown, hb⟩
  obtain ⟨a2, c2, e2, hr, hf⟩ := Rd.own hown (nrm_bd _)
  simp only [Value.slice.injEq, true_and] at e2
  obtain ⟨rfl, rfl⟩ := e2
  exact ⟨a', c', rfl, hr, hb, hf⟩
end Go.Proofs.YtoifklkdfgfbdacDoor

namespace Go.Proofs.YtoifklkdfgfbdacDoor
open Go.RowKit Crm

set_option maxRecDepth 100000 in
theorem rInY (n lo hi : Int) (w : World) (h1 : lo ≤ n) (h2 : n ≤ hi) :
    Calls Tryd.prog 27 #[.int .i64 n, .int .i64 lo, .int .i64 hi] w fun e w' => e = .returned (.bool true) ∧ w' = w := by
  go_enter Tryd.func27, Tryd.ntmps27
  go_wp2
  go_ret
  exact ⟨rfl, rfl⟩
set_option maxRecDepth 100000 in
theorem rInN (n lo hi : Int) (w : World) (h : n < lo ∨ hi < n) :
    Calls Tryd.prog 27 #[.int .i64 n, .int .i64 lo, .int .i64 hi] w fun e w' => e = .returned (.bool false) ∧ w' = w := by
  by_cases h1 : n < lo
  · clear h
    go_enter Tryd.func27, Tryd.ntmps27
    go_wp2
    go_ret
    exact ⟨rfl, rfl⟩
  · have h2 : hi < n := by omega
    have hd : decide (n ≤ hi) = false := by simp; omega
    clear h
    go_enter Tryd.func27, Tryd.ntmps27
    go_wp2
    go_ret
    exact ⟨rfl, rfl⟩

end Go.Proofs.YtoifklkdfgfbdacDoor

namespace Go.Proofs.YtoifklkdfgfbdacDoor
open Go.RowKit Crm

set_option maxRecDepth 100000 in
set_option maxHeartbeats 1000000 in
theorem rDealtO (s : Int) (a : Option Addr) (m c : Nat) (xs : List Int) (n : Nat) (w : World) (h : Rd w a m c xs) (hs0 : 0 ≤ s) (hs1 : s ≤ 18446744073709551615) (hm : m ≤ 4) (hn9 : n ≤ 9) :
    Calls Tryd.prog 30 #[.int .u64 s, .slice a m c, .int .i64 n] w fun e w' => ∃ v, e = .returned v ∧ w'.ownsRow w.heap.size 43 1 v n ((dl (s :: xs) n).map (Value.int .u64)) ∧ Below w.heap.size w w' := by
  go_enter Tryd.func30, Tryd.ntmps30
  go_wp2_with (at_builtin; refine wpList_appR Tryd.underlying31 info43 _ rfl _ _ rfl s hs0 hs1 a m c xs h rfl rfl (by omega) ?_; intro a1 c1 w1 hr1 hb1)
  have hs1 := hb1.size
  go_loopw [8, 9] (fun v i wr => ∃ k : Nat, k ≤ n ∧ i = .int .i64 (k + 1) ∧ wr.ownsRow w1.heap.size 43 1 v k ((dl (s :: xs) k).map (Value.int .u64)) ∧ Below w1.heap.size w1 wr) (fun _ i _ => n + 1 - (intOf i).toNat)
  case atStart => exact ⟨0, Nat.zero_le _, rfl, World.ownsRow_nil _ _ _ _, Below.refl _ _⟩
  case round =>
    obtain ⟨k, hk, rfl, hown, hbel⟩ := hrel
    have hs2 := hbel.size
    by_cases hlt : k < n
    · have HF : Hid (nm (ev (s :: xs) ((k : Int) + 1)) = dlf (s :: xs) k) := rfl
      go_wp2_with fail
      refine (rEval _ _ _ _ _ _ (hr1.below hbel) (by omega) (by omega) (by omega)).mono ?_
      rintro e w3 ⟨rfl, hw⟩
      have hw := hw.symm
      subst hw
      rw [HF.out]
      go_wp2_with (at_builtin; refine wpList_app1 Tryd.underlying31 info43 _ rfl _ _ rfl w1.heap.size _ _ _ rfl hown _ rfl (by omega) (by omega) ?_; intro v' w7 hown7 hbel7; rw [dl_snoc] at hown7)
      have hbel8 := hbel.trans hbel7
      go_roundw
      case rel => exact ⟨k + 1, by omega, by go_num, hown7, hbel8⟩
      case measure => simp [intOf]; omega
    · have hkn : k = n := by omega
      subst hkn
      go_wp2
      go_ret
      exact ⟨_, rfl, own_base hown hs1, hb1.trans (hbel.mono hs1)⟩
theorem rDealt (s : Int) (a : Option Addr) (m c : Nat) (xs : List Int) (n : Nat) (w : World) (h : Rd w a m c xs) (hs0 : 0 ≤ s) (hs1 : s ≤ 18446744073709551615) (hm : m ≤ 4) (hn9 : n ≤ 9) :
    Calls Tryd.prog 30 #[.int .u64 s, .slice a m c, .int .i64 n] w fun e w' => ∃ a' c', e = .returned (.slice a' n c') ∧ Rd w' a' n c' (dl (s :: xs) n) ∧ Below w.heap.size w w' := by
  refine (rDealtO s a m c xs n w h hs0 hs1 hm hn9).mono ?_
  rintro e w' ⟨v, rfl, hown, hb⟩
  obtain ⟨a', c', rfl, hr', _⟩ := Rd.own hown (bd_u64 (dl_bd _ _))
  exact ⟨_, _, rfl, hr', hb⟩

end Go.Proofs.YtoifklkdfgfbdacDoor
