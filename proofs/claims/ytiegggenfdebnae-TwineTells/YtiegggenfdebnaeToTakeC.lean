/- croftref.Fit, croftref.Open. · solve.takeTimes. -/
import Derived.Test.YtiegggenfdebnaeToShamirM
import Derived.Test.YtiegggenfdebnaeToSortC
import Derived.Test.YtiegggenfdebnaeToTwoC
import Derived.Test.YtiegggenfdebnaeToBadM
import Derived.Test.YtiegggenfdebnaeToAddC
import Derived.Test.YtiegggenfdebnaeToPolyM2
import Derived.Test.YtiegggenfdebnaeToMath
import Derived.Deep.RegionWith
namespace Go.Proofs.Ytiegggenfdebnae
open Go.RowKit Crm

theorem RdS.take {w : World} {a : Option Addr} {n c : Nat} {l : List (Int × Int)} (h : RdS w a n c l) {k : Nat} (hk : k ≤ n) : RdS w a k c (l.take k) := by
  have e : ∀ i, i < k → (l.take k).getD i (0, 0) = l.getD i (0, 0) := fun i hi => by simp [hi]
  refine ⟨by have := h.len; simp; omega, by have := h.cap; omega, h.max, fun i hi => ?_, h.nil, fun x hx i hi => ?_⟩
  · rw [e i hi]; exact h.bd i (by omega)
  · rw [e i hi]; exact h.cell x hx i (by omega)

/-- What Fit gives. -/
def FitsO (l : List (Int × Int)) (n m : Nat) (w : World) (e : Ending) (w' : World) : Prop :=
  ∃ (p : List Int) (ap : Option Addr) (cp : Nat) (B : List Int) (ab : Option Addr) (cb : Nat), e = .returned (.tuple #[.slice ap p.length cp, .slice ab (bdl l p n).length cb]) ∧ w'.ownsRow w.heap.size 22 1 (.slice ap p.length cp) p.length (p.map (Value.int .u64)) ∧ p.length ≤ m ∧ Hs l m p ∧ Nml p ∧
    w'.ownsRow w.heap.size 3 1 (.slice ab (bdl l p n).length cb) (bdl l p n).length (zns B) ∧ OuI (bdl l p n) B (bdl l p n).length ∧ Below w.heap.size w w'

/-- What Fit gives, to be read. -/
def Fits (l : List (Int × Int)) (n m : Nat) (w : World) (e : Ending) (w' : World) : Prop :=
  ∃ (p : List Int) (ap : Option Addr) (cp : Nat) (B : List Int) (ab : Option Addr) (cb : Nat), e = .returned (.tuple #[.slice ap p.length cp, .slice ab (bdl l p n).length cb]) ∧ Rd w' ap p.length cp p ∧ p.length ≤ m ∧ Hs l m p ∧ Nml p ∧
    w'.ownsRow w.heap.size 3 1 (.slice ab (bdl l p n).length cb) (bdl l p n).length (zns B) ∧ OuI (bdl l p n) B (bdl l p n).length ∧ Below w.heap.size w w'
end Go.Proofs.Ytiegggenfdebnae

namespace Go.Proofs.Ytiegggenfdebnae
open Go.RowKit Crm

/-- L, from which t times D has been taken at the first k places. -/
structure Tk (L D : List Int) (t : Int) (k : Nat) (A : List Int) : Prop where
  len : A.length = L.length
  bd : ∀ x ∈ A, 0 ≤ x ∧ x ≤ 2147483646
  at_ : ∀ j, j < L.length → A.getD j 0 = if j < k then nm (L.getD j 0 - t * D.getD j 0) else L.getD j 0

theorem set_bd {A : List Int} {k : Nat} {v : Int} (h : ∀ x ∈ A, 0 ≤ x ∧ x ≤ 2147483646) (hv : 0 ≤ v ∧ v ≤ 2147483646) : ∀ x ∈ A.set k v, 0 ≤ x ∧ x ≤ 2147483646 := fun x hx => by
  rcases List.mem_or_eq_of_mem_set hx with h1 | h1
  · exact h x h1
  · rw [h1]; exact hv
theorem tk_start (L D : List Int) (t : Int) (h : ∀ x ∈ L, 0 ≤ x ∧ x ≤ 2147483646) : Tk L D t 0 L := ⟨rfl, h, fun j _ => by rw [if_neg (by omega)]⟩
theorem tk_step {L D A : List Int} {t : Int} {k : Nat} (h : Tk L D t k A) (hk : k < L.length) {v : Int} (hv : v = nm (L.getD k 0 - t * D.getD k 0)) : Tk L D t (k + 1) (A.set k v) := by
  refine ⟨by rw [List.length_set]; exact h.len, set_bd h.bd (by rw [hv]; exact nm_bd _), fun j hj => ?_⟩
  rw [getD_set]
  by_cases e : j = k
  · subst e
    rw [if_pos ⟨rfl, by rw [h.len]; exact hk⟩, if_pos (by omega), hv]
  · rw [if_neg (by omega), h.at_ j hj]
    by_cases e2 : j < k
    · rw [if_pos e2, if_pos (by omega)]
    · rw [if_neg e2, if_neg (by omega)]

set_option maxHeartbeats 400000 in
set_option maxRecDepth 100000 in
theorem cTake (g n : Nat) (L : List Int) (ab : Option Addr) (cb : Nat) (D : List Int) (t : Int) (w : World)
    (hL : Blk w g L) (hLb : ∀ x ∈ L, 0 ≤ x ∧ x ≤ 2147483646) (hD : Rd w ab n cb D) (hne : ∀ x, ab = some x → x.block ≠ g) (hln : L.length = n) (hn : n ≤ 1000000) (ht0 : 0 ≤ t) (ht1 : t ≤ 18446744073709551615) :
    Calls Try.prog 83 #[.slice (some ⟨g, 0, none⟩) n n, .slice ab n cb, .int .u64 t] w fun e w' => ∃ A, e = .returned (.tuple #[]) ∧ Tk L D t n A ∧ Blk w' g A ∧ w.grownBy w' (some g) := by
  have hlen := hD.len
  go_enter Try.func83, Try.ntmps83
  go_wp2
  go_loopw [10] (fun i wr => ∃ (k : Nat) (A : List Int), k ≤ n ∧ i = .int .i64 k ∧ Hid (Tk L D t k A) ∧ Blk wr g A ∧ w.grownBy wr (some g)) (fun i _ => n - (intOf i).toNat)
  case atStart => exact ⟨0, L, Nat.zero_le _, rfl, tk_start L D t hLb, hL, World.grownBy.refl _ _⟩
  case round =>
    obtain ⟨k, A, hk, rfl, HT, hblk, hgr⟩ := hrel
    have hlA : A.length = n := by rw [HT.out.len]; exact hln
    by_cases hlt : k < n
    · have hDr : Rd wr ab n cb D := hD.grown hgr (fun x hx => by simpa using hne x hx)
      obtain ⟨b, ob, x, rfl, hb, HX, hx0, hx1, hc⟩ := hDr.one hlt
      have hbg : b ≠ g := hne _ rfl
      have hcell := hblk.cell (i := k) (by omega)
      have hfz := hblk.frozen k
      obtain ⟨y, hy⟩ : ∃ y, y = A.getD k 0 := ⟨_, rfl⟩
      have HY : Hid (y = L.getD k 0) := by rw [hy, HT.out.at_ _ (by omega), if_neg (by omega)]; exact rfl
      have hyb : 0 ≤ y ∧ y ≤ 2147483646 := by rw [hy]; exact getD_bd' HT.out.bd _
      rw [← hy] at hcell
      clear hy
      have hm := nm_bd (t * x)
      have hk0 : (0 : Int) ≤ (k : Int) := by omega
      have hkn : (k : Int) < (n : Int) := by omega
      have HT2 : Hid (Tk L D t (k + 1) (A.set k (nm (y - nm (t * x))))) := tk_step HT.out (by omega) (by rw [nm_subr, HY.out, HX.out])
      have Hblk' : Hid (Blk (wr.setCell ⟨g, k, none⟩ (.int .u64 (nm (y - nm (t * x))))) g (A.set k (nm (y - nm (t * x))))) := hblk.set k _
      have Hgr' : Hid (w.grownBy (wr.setCell ⟨g, k, none⟩ (.int .u64 (nm (y - nm (t * x))))) (some g)) := grown_trans hgr (grown_set _ _ _ _)
      clear hblk hgr hDr hD hL HT
      go_wp2
      go_region_with (first | (go_at_call 62; refine (fMul _ _ _ (by omega) (by omega) (by omega) (by omega)).mono ?_; rintro e w' ⟨rfl, rfl⟩) | (go_at_call 70; refine (fSub _ _ _ (by omega) (by omega) (by omega) (by omega)).mono ?_; rintro e w' ⟨rfl, rfl⟩))
      all_goals
        go_wp2
        go_roundw
        case rel => exact ⟨k + 1, _, by omega, by go_num, HT2, Hblk'.out, grown_drew Hgr'.out⟩
        case measure => simp [intOf]; omega
    · have hkl : k = n := by omega
      subst hkl
      go_wp2
      exact bodyPost_end (v := .tuple #[]) (by simp [results, Try.results83, go_sem]) rfl ⟨A, rfl, HT.out, hblk, hgr⟩
end Go.Proofs.Ytiegggenfdebnae
