/- croftref.Sum. -/
import Derived.Test.YtenbmdibbnlljaaRefPolyC
import Derived.Test.YtenbmdibbnlljaaPolyM2
namespace Go.Proofs.Ytenbmdibbnlljaa
open Go.RowKit Crm

def smk (ps qs : List Int) (k : Nat) : List Int := (List.range k).map fun i => nm (ps.getD i 0 + qs.getD i 0)
theorem smk_step (ps qs : List Int) (k : Nat) {v : Int} (e : v = nm (ps.getD k 0 + qs.getD k 0)) : smk ps qs k ++ [v] = smk ps qs (k + 1) := by
  unfold smk
  rw [List.range_succ, List.map_append, e]
  rfl
theorem smk_bd (ps qs : List Int) (k : Nat) : ∀ x ∈ smk ps qs k, 0 ≤ x ∧ x ≤ 18446744073709551615 := by
  intro x hx
  obtain ⟨k, _, rfl⟩ := List.mem_map.1 hx
  have := nm_bd (ps.getD k 0 + qs.getD k 0)
  omega

set_option maxRecDepth 100000 in
set_option maxHeartbeats 1000000 in
theorem rSum (a : Option Addr) (n c : Nat) (xs : List Int) (b : Option Addr) (m d : Nat) (ys : List Int) (w : World) (h : Rd w a n c xs) (g : Rd w b m d ys) (hn : n ≤ 1000) (hm : m ≤ 1000) :
    Calls Try.prog 29 #[.slice a n c, .slice b m d] w fun e w' => ∃ a' c', e = .returned (.slice a' (nrm (sml xs ys)).length c') ∧ Rd w' a' (nrm (sml xs ys)).length c' (nrm (sml xs ys)) ∧ Below w.heap.size w w' ∧ ∀ x, a' = some x → w.heap.size ≤ x.block := by
  have hlen := h.len
  have glen := g.len
  go_enter Try.func29, Try.ntmps29
  go_wp2
  go_loopw [5, 6] (fun v i wr => ∃ k : Nat, k ≤ max n m ∧ i = .int .i64 k ∧ wr.ownsRow w.heap.size 22 1 v k ((smk xs ys k).map (Value.int .u64)) ∧ Below w.heap.size w wr) (fun _ i _ => max n m - (intOf i).toNat)
  case atStart => exact ⟨0, Nat.zero_le _, rfl, World.ownsRow_nil _ _ _ _, Below.refl _ _⟩
  case round =>
    obtain ⟨k, hk, rfl, hown, hbel⟩ := hrel
    have hs1 := hbel.size
    by_cases h1 : k < n
    · obtain ⟨b1, o1, x, rfl, hbb, HX, hx0, hx1, hcx⟩ := (h.below hbel).one h1
      have hnx := nm_bd x
      by_cases h2 : k < m
      · obtain ⟨b2, o2, y, rfl, hbb2, HY, hy0, hy1, hcy⟩ := (g.below hbel).one h2
        have HV : Hid (nm (nm x + y) = nm (xs.getD k 0 + ys.getD k 0)) := by rw [HX.out, HY.out]; exact nm_addl _ _
        go_wp2_with (first | (go_at_call 14; refine (rAdd _ _ _ (by omega) (by omega) (by omega) (by omega)).mono ?_; rintro e w' ⟨rfl, hw⟩; have hw := hw.symm; subst hw) | (at_builtin; refine wpList_app1 Try.underlying29 infoR22 _ rfl _ _ rfl w.heap.size _ _ _ rfl hown _ rfl (by omega) (by omega) ?_; intro v' w3 hown3 hbel3; rw [smk_step xs ys k HV.out] at hown3; have hbel4 := hbel.trans hbel3; clear hown hbel hbel3))
        go_roundw
        case rel => exact ⟨k + 1, by omega, by go_num, hown3, hbel4⟩
        case measure => simp [intOf]; omega
      · have HV : Hid (nm x = nm (xs.getD k 0 + ys.getD k 0)) := by rw [HX.out, getD_big (show ys.length ≤ k by omega), Int.add_zero]; exact rfl
        go_wp2_with (first | (go_at_call 14; refine (rAdd _ _ _ (by omega) (by omega) (by omega) (by omega)).mono ?_; rintro e w' ⟨rfl, hw⟩; have hw := hw.symm; subst hw) | (at_builtin; refine wpList_app1 Try.underlying29 infoR22 _ rfl _ _ rfl w.heap.size _ _ _ rfl hown _ rfl (by omega) (by omega) ?_; intro v' w3 hown3 hbel3; rw [smk_step xs ys k HV.out] at hown3; have hbel4 := hbel.trans hbel3; clear hown hbel hbel3))
        go_roundw
        case rel => exact ⟨k + 1, by omega, by go_num, hown3, hbel4⟩
        case measure => simp [intOf]; omega
    · by_cases h2 : k < m
      · obtain ⟨b2, o2, y, rfl, hbb2, HY, hy0, hy1, hcy⟩ := (g.below hbel).one h2
        have HV : Hid (nm y = nm (xs.getD k 0 + ys.getD k 0)) := by rw [HY.out, getD_big (show xs.length ≤ k by omega), Int.zero_add]; exact rfl
        go_wp2_with (first | (go_at_call 14; refine (rAdd _ _ _ (by omega) (by omega) (by omega) (by omega)).mono ?_; rintro e w' ⟨rfl, hw⟩; have hw := hw.symm; subst hw) | (at_builtin; refine wpList_app1 Try.underlying29 infoR22 _ rfl _ _ rfl w.heap.size _ _ _ rfl hown _ rfl (by omega) (by omega) ?_; intro v' w3 hown3 hbel3; rw [smk_step xs ys k HV.out] at hown3; have hbel4 := hbel.trans hbel3; clear hown hbel hbel3))
        go_roundw
        case rel => exact ⟨k + 1, by omega, by go_num, hown3, hbel4⟩
        case measure => simp [intOf]; omega
      · obtain ⟨a', c', rfl, hr, hfr⟩ := Rd.own hown (smk_bd xs ys k)
        have HE : Hid (smk xs ys k = sml xs ys) := by unfold smk sml; rw [hlen, glen, show k = max n m by omega]; exact rfl
        have HK : Hid (k = (sml xs ys).length) := by rw [sml_len, hlen, glen]; unfold Hid; omega
        go_wp2_with fail
        refine (rNormal _ _ _ _ _ hr (by omega)).mono ?_
        rintro e w2 ⟨a2, c2, rfl, hr2, hb2, hf2⟩
        rw [HE.out] at hr2 ⊢
        rw [HK.out, ← nrm_len] at hr2 ⊢
        go_wp2
        go_ret
        exact ⟨a2, c2, rfl, hr2, hbel.trans (hb2.mono hs1), fun x hx => Nat.le_trans hs1 (hf2 x hx)⟩
end Go.Proofs.Ytenbmdibbnlljaa
