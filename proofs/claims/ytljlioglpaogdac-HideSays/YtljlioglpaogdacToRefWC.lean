/- shamir.Deal. · poly.Through. · croftref.Parties. -/
import Derived.Test.YtljlioglpaogdacToRows2
import Derived.Test.YtljlioglpaogdacToContC
import Derived.Test.YtljlioglpaogdacToPolyM3
import Derived.Test.YtljlioglpaogdacToRefProdC
import Derived.Laws.AppendOwnNone
import Derived.Deep.RegionWith
import Derived.Deep.QuietTactic
import Derived.BigQuiet
namespace Go.Proofs.Ytljlioglpaogdac
set_option linter.unusedVariables false
set_option maxRecDepth 100000
set_option maxHeartbeats 8000000
section
open Crm Go.RowKit
/-- A list that is filled from its beginning on. -/
def fil (f : Nat → Int) (n k : Nat) : List Int := (List.range n).map fun i => if i < k then f i else 0
theorem fil_len (f : Nat → Int) (n k : Nat) : (fil f n k).length = n := by simp [fil]
theorem fil_zero (f : Nat → Int) (n : Nat) : List.replicate n 0 = fil f n 0 := by
  refine list_ext (by simp [fil]) fun t ht => ?_
  have : t < n := by simpa using ht
  simp [fil, this]
theorem fil_set {f : Nat → Int} {n k : Nat} {v : Int} (hv : v = f k) : (fil f n k).set k v = fil f n (k + 1) := by
  refine list_ext (by simp [fil]) fun t ht => ?_
  have htn : t < n := by simpa [fil] using ht
  rw [getD_set, fil_len]
  by_cases e : k = t
  · subst e
    rw [if_pos ⟨rfl, htn⟩, hv]
    simp [fil, htn]
  · rw [if_neg (fun h => e h.1)]
    have : (t < k + 1) = (t < k) := by apply propext; omega
    simp [fil, htn, this]
theorem fil_full (f : Nat → Int) (n : Nat) : fil f n n = (List.range n).map f := by
  refine list_ext (by simp [fil]) fun t ht => ?_
  have htn : t < n := by simpa [fil] using ht
  simp [fil, htn]
/-- A row that a list's text lays. -/
theorem Blk.lit1 (w : World) (x : Int) : Blk (w.alloc (.cells #[.int .u64 x] 23)) w.heap.size [x] := heap_alloc_new w _
theorem rParties (a : Option Addr) (n c : Nat) (ts : List Int) (w : World) (h : RdI w a n c ts) :
    Calls Try.prog 39 #[.slice a n c] w fun e w' => Tells (0 < n ∧ dis (fi ts) n) w e w' := by
  have hcap := h.cap
  have hmax := h.max
  have hlen := h.len
  unfold maxLen at hmax
  go_enter Try.func39, Try.ntmps39
  go_wp2
  go_loopw [3] (fun i wr => ∃ k : Nat, k ≤ n ∧ i = .int .i64 k ∧ Hid (dis (fi ts) k) ∧ Below w.heap.size w wr) (fun i _ => n - (intOf i).toNat)
  case atStart => exact ⟨0, Nat.zero_le _, rfl, dis_zero _, Below.refl _ _⟩
  case round =>
    obtain ⟨k, hk, rfl, HK, hbel⟩ := hrel
    by_cases hlt : k < n
    · have hI := h.below hbel
      have hT := hI.take (k := k) (by omega)
      have HG : Hid (∀ j, j < k → (ts.take k).getD j 0 = ts.getD j 0) := fun j hj => by simp [hj]
      obtain ⟨b, o, x, rfl, hbb, HX, hx0, hx1, hcx⟩ := hI.one hlt
      by_cases hx : x < 1 ∨ 9 < x
      · have HN : Hid (¬ (0 < n ∧ dis (fi ts) n)) := fun hh => by have := (hh.2 k hlt).1; unfold fi at this; rw [HX.out] at this; omega
        have HX2 : Hid (x < 1 ∨ 9 < x) := hx
        clear hx
        go_wp2
        go_quiet ((go_at_call 13; exact Calls.quiet_of_same (rInN _ _ _ _ HX2.out)))
        all_goals
          go_wp2
          go_ret
          exact .no HN.out (drewN_below hbel _)
      · by_cases hj : ∃ j, j < k ∧ ts.getD j 0 = x
        · obtain ⟨j, hj, he⟩ := hj
          have HN : Hid (¬ (0 < n ∧ dis (fi ts) n)) := fun hh => (hh.2 k hlt).2 j hj (by unfold fi; rw [he, HX.out])
          have HE : Hid ((ts.take k).getD j 0 = x) := by unfold Hid; rw [HG.out j hj]; exact he
          clear he
          have hTd := fun q => RdI.drewN hT q
          go_wp2
          go_quiet ((first | (go_at_call 13; exact Calls.quiet_of_same (rInY _ _ _ _ (by omega) (by omega))) | (go_at_call 61; exact Calls.quiet_of_same (iContT _ _ _ _ _ _ (hTd _) hj HE.out))))
          all_goals
            go_wp2
            go_ret
            exact .no HN.out (drewN_below hbel _)
        · have HNO : Hid (∀ j, j < k → ts.getD j 0 ≠ x) := fun j hj' e => hj ⟨j, hj', e⟩
          have HNO2 : Hid (∀ j, j < k → (ts.take k).getD j 0 ≠ x) := fun j hj' => by rw [HG.out j hj']; exact HNO.out j hj'
          have HK2 : Hid (dis (fi ts) (k + 1)) := dis_succ HK.out HX.out (by omega) (by omega) HNO.out
          have hTd := fun q => RdI.drewN hT q
          clear hj
          go_wp2
          go_quiet ((first | (go_at_call 13; exact Calls.quiet_of_same (rInY _ _ _ _ (by omega) (by omega))) | (go_at_call 61; exact Calls.quiet_of_same (iContF _ _ _ _ _ _ (hTd _) HNO2.out))))
          all_goals
            go_wp2
            go_roundw
            case rel => exact ⟨k + 1, by omega, by go_num, HK2, drewN_below hbel _⟩
            case measure => simp [intOf]; omega
    · have hkn : k = n := by omega
      subst hkn
      by_cases hk0 : 0 < k
      · have HY : Hid (0 < k ∧ dis (fi ts) k) := ⟨hk0, HK.out⟩
        have hkb : decide ((0 : Int) < k) = true := by simp; omega
        go_wp2
        go_ret
        exact .yes HY.out hbel
      · obtain rfl : k = 0 := by omega
        have HY : Hid (¬ (0 < 0 ∧ dis (fi ts) 0)) := fun hh => by have := hh.1; omega
        go_wp2
        go_ret
        exact .no HY.out hbel
end
end Go.Proofs.Ytljlioglpaogdac
