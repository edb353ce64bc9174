/- decode.misses. · (*shamir.parties).join, shamir.Check. -/
import Derived.Test.YtoekicjppheemabToSortM
import Derived.Test.YtoekicjppheemabToFitC
import Derived.Test.YtoekicjppheemabToRefShC
import Derived.Test.YtoekicjppheemabToFaceC
import Derived.Test.YtoekicjppheemabToShamirM
import Derived.Test.YtoekicjppheemabToAtsC
namespace Go.Proofs.Ytoekicjppheemab
open Go.RowKit Crm

set_option maxRecDepth 100000 in
set_option maxHeartbeats 1000000 in
theorem cMisses (ap : Option Addr) (m cp : Nat) (p : List Int) (a : Option Addr) (n c : Nat) (l : List (Int × Int)) (w : World) (hp : Rd w ap m cp p) (h : RdS w a n c l) (hm : m ≤ 40) (hd : dis (fa l) n) :
    Calls Try.prog 12 #[.slice ap m cp, .slice a n c] w fun e w' => ∃ (B : List Int) (ab : Option Addr) (cb : Nat), e = .returned (.slice ab (bdl l p n).length cb) ∧
      w'.ownsRow w.heap.size 3 1 (.slice ab (bdl l p n).length cb) (bdl l p n).length (zns B) ∧ OuI (bdl l p n) B (bdl l p n).length ∧ Below w.heap.size w w' := by
  have hn9 := dis_nine hd
  have HD : Hid (dis (fa l) n) := hd
  clear hd
  have hcap := h.cap
  have hmax := h.max
  unfold maxLen at hmax
  go_enter Try.func12, Try.ntmps12
  go_wp2
  go_loopw [5, 12] (fun v i wr => ∃ k : Nat, k ≤ n ∧ i = .int .i64 k ∧ wr.ownsRow w.heap.size 3 1 v (bdl l p k).length (zns (bdl l p k)) ∧ Below w.heap.size w wr) (fun _ i _ => n - (intOf i).toNat)
  case atStart => exact ⟨0, Nat.zero_le _, rfl, World.ownsRow_nil _ _ _ _, Below.refl _ _⟩
  case round =>
    obtain ⟨k, hk, rfl, hown, hbel⟩ := hrel
    have hs3 := hbel.size
    have hbk := bdl_le l p k
    by_cases hlt : k < n
    · obtain ⟨b, o, x, y, rfl, hbb, HX, HY, hx0, hx1, hy0, hy1, hcx, hcy⟩ := (h.below hbel).one hlt
      have hx9 := (HD.out k hlt).1
      unfold fa at hx9
      rw [HX.out] at hx9
      have hx1 := hx9.1
      have hx9 := hx9.2
      have hcA0 := cell_alloc0 wr (.int .i64 x) (.int .u64 y) 41
      have hcA1 := cell_alloc1 wr (.int .i64 x) (.int .u64 y) 41
      have hbA : Below w.heap.size w (wr.alloc (.cells #[.int .i64 x, .int .u64 y] 41)) := hbel.alloc hs3 _
      have hownA : (wr.alloc (.cells #[.int .i64 x, .int .u64 y] 41)).ownsRow w.heap.size 3 1 u5 (bdl l p k).length (zns (bdl l p k)) := hown.alloc _
      have hszA : (wr.alloc (.cells #[.int .i64 x, .int .u64 y] 41)).heap.size = wr.heap.size + 1 := by simp
      have hsA : w.heap.size ≤ (wr.alloc (.cells #[.int .i64 x, .int .u64 y] 41)).heap.size := by omega
      have hltA : wr.heap.size < (wr.alloc (.cells #[.int .i64 x, .int .u64 y] 41)).heap.size := by omega
      go_wp2_with fail
      generalize wr.alloc (.cells #[.int .i64 x, .int .u64 y] 41) = wd at *
      clear hszA
      have hpA := hp.below hbA
      refine (cEvalOK _ _ _ _ _ _ hpA (by omega) (by omega) (by omega)).mono ?_
      rintro e w2 ⟨rfl, hb2⟩
      have hcB0 : w2.cell? ⟨wr.heap.size, 0, none⟩ = some (.int .i64 x) := by rw [hb2.cell hltA]; exact hcA0
      have hcB1 : w2.cell? ⟨wr.heap.size, 1, none⟩ = some (.int .u64 y) := by rw [hb2.cell hltA]; exact hcA1
      have hownB := own_below hownA hb2
      have hbB := hbA.trans (hb2.mono hbA.size)
      have hsB := hbB.size
      clear hcx hcy hown hbel hcA0 hcA1 hbA hownA hpA hb2
      by_cases hm : nm (ev p x) = nm y
      · have hmb : (nm (ev p x) != nm y) = false := by rw [hm]; simp
        have HB : Hid (bdl l p (k + 1) = bdl l p k) := bdl_ok (by rw [HX.out, HY.out]; exact hm)
        clear hm
        go_wp2_with (go_at_call 23; refine (fNorm _ _ (by omega) (by omega)).mono ?_; rintro e w3 ⟨rfl, hw⟩; have hw := hw.symm; subst hw)
        go_roundw
        case rel => exact ⟨k + 1, by omega, by go_num, by rw [HB.out]; exact hownB, hbB⟩
        case measure => simp [intOf]; omega
      · have hmb : (nm (ev p x) != nm y) = true := by rw [bne_iff_ne]; exact hm
        have HB : Hid (bdl l p (k + 1) = bdl l p k ++ [x]) := by
          have := bdl_bad (l := l) (p := p) (k := k) (by rw [HX.out, HY.out]; exact hm)
          rwa [HX.out] at this
        clear hm
        go_wp2_with (first | (go_at_call 23; refine (fNorm _ _ (by omega) (by omega)).mono ?_; rintro e w3 ⟨rfl, hw⟩; have hw := hw.symm; subst hw) | (at_builtin; refine wpList_appV Try.underlying24 infoZ rfl (by omega) _ rfl _ _ rfl w.heap.size _ _ _ rfl hownB (.int .i64 x) rfl rfl (by omega) hsB ?_; intro v' w7 hown7 hgr7 _; rw [zns_snoc, ← HB.out] at hown7; have hlB : (bdl l p k).length + 1 = (bdl l p (k + 1)).length := (by rw [HB.out]; simp); rw [hlB] at hown7; have hbel7 := hbB.grown hgr7 hsB (fun j hj => (hownB.lt j hj).1); clear hgr7 hownB hbB hlB))
        go_roundw
        case rel => exact ⟨k + 1, by omega, by go_num, hown7, hbel7⟩
        case measure => simp [intOf]; omega
    · have hkn : k = n := by omega
      subst hkn
      obtain ⟨ab, cb, rfl, hcb⟩ := own_slice hown
      obtain ⟨NB, HNB⟩ : ∃ NB, Hid ((bdl l p k).length = NB) := ⟨_, rfl⟩
      rw [HNB.out] at hown hcb hbk ⊢
      go_wp2_with fail
      refine (zSorts _ _ _ _ _ hown (by omega)).mono ?_
      rintro e w3 ⟨rfl, B, hO, hown3, hgr3⟩
      have hlt2 := hown.lt
      have hb3 : Below w.heap.size w w3 := hbel.grown hgr3 hs3 (fun j hj => (hlt2 j hj).1)
      have HO : Hid (OuI (bdl l p k) B NB) := hO
      clear hown hgr3 hlt2 hO hbel
      go_wp2
      go_ret
      refine ⟨B, ab, cb, ?_, ?_, ?_, hb3⟩
      · rw [HNB.out]; rfl
      · rw [HNB.out]; exact hown3
      · rw [HNB.out]; exact HO.out
end Go.Proofs.Ytoekicjppheemab

namespace Go.Proofs.Ytoekicjppheemab
open Go.RowKit Crm

/-- Row g holds the marks M. -/
def BlkB (w : World) (g : Nat) (M : List Bool) : Prop := w.heap[g]? = some (.cells (M.map Value.bool).toArray 59 (0, 0))
theorem BlkB.lt {w : World} {g : Nat} {M : List Bool} (h : BlkB w g M) : g < w.heap.size := (Array.getElem?_eq_some_iff.1 h).1
theorem BlkB.cell {w : World} {g : Nat} {M : List Bool} (h : BlkB w g M) {i : Nat} (hi : i < M.length) : w.cell? ⟨g, i, none⟩ = some (.bool (M.getD i false)) := by
  rw [cell_of_row w g i _ _ (0, 0) h]
  simp [List.getElem?_eq_getElem hi]
theorem BlkB.frozen {w : World} {g : Nat} {M : List Bool} (h : BlkB w g M) (i : Nat) : w.frozen? ⟨g, i, none⟩ = false := frozen_of_row w g i _ _ h
theorem BlkB.set {w : World} {g : Nat} {M : List Bool} (h : BlkB w g M) (i : Nat) (v : Bool) : BlkB (w.setCell ⟨g, i, none⟩ (.bool v)) g (M.set i v) := by
  have := heap_setCell_same w g i _ _ (.bool v) h
  unfold BlkB
  rw [this]
  simp [List.map_set]
theorem BlkB.below {w w' : World} {B g : Nat} {M : List Bool} (h : BlkB w g M) (hb : Below B w w') (hg : g < B) : BlkB w' g M := by
  unfold BlkB; rw [hb.block g hg]; exact h

set_option maxRecDepth 100000 in
theorem cJoinO (g : Nat) (x : Int) (w : World) (h : x < 1 ∨ 9 < x) :
    Calls Try.prog 28 #[.pointer (some ⟨g, 0, none⟩), .int .i64 x] w fun e w' => e = .returned (.bool false) ∧ w' = w := by
  by_cases h1 : x < 1
  · clear h
    go_enter Try.func28, Try.ntmps28
    go_wp2
    go_ret
    exact ⟨rfl, rfl⟩
  · have h2 : 9 < x := by omega
    clear h
    go_enter Try.func28, Try.ntmps28
    go_wp2
    go_ret
    exact ⟨rfl, rfl⟩
set_option maxRecDepth 100000 in
theorem cJoinN (g k : Nat) (M : List Bool) (w : World) (h : BlkB w g M) (hM : M.length = 10) (h1 : 1 ≤ k) (h9 : k ≤ 9) (hk : M.getD k false = true) :
    Calls Try.prog 28 #[.pointer (some ⟨g, 0, none⟩), .int .i64 k] w fun e w' => e = .returned (.bool false) ∧ w' = w := by
  have hc := h.cell (i := k) (by omega)
  rw [hk] at hc
  have hlt := h.lt
  go_enter Try.func28, Try.ntmps28
  go_wp2
  go_ret
  exact ⟨rfl, rfl⟩
set_option maxRecDepth 100000 in
theorem cJoinY (g k : Nat) (M : List Bool) (w : World) (h : BlkB w g M) (hM : M.length = 10) (h1 : 1 ≤ k) (h9 : k ≤ 9) (hk : M.getD k false = false) :
    Calls Try.prog 28 #[.pointer (some ⟨g, 0, none⟩), .int .i64 k] w fun e w' => e = .returned (.bool true) ∧ w' = w.setCell ⟨g, k, none⟩ (.bool true) := by
  have hc := h.cell (i := k) (by omega)
  rw [hk] at hc
  have hlt := h.lt
  have hfz := h.frozen k
  go_enter Try.func28, Try.ntmps28
  go_wp2
  go_ret
  exact ⟨rfl, rfl⟩
end Go.Proofs.Ytoekicjppheemab
