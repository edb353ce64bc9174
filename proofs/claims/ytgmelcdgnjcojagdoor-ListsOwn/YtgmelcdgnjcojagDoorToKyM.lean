/- shamir.Deal: what it tells is the caller's own. · Package keys: keep, withDealt, both. · Package keys: plain facts. -/
import Derived.Test.YtgmelcdgnjcojagDoorToEnR
import Derived.Test.YtgmelcdgnjcojagDoorToKyCon
import Derived.Test.YtgmelcdgnjcojagDoorToRStE
import Derived.Test.YtgmelcdgnjcojagDoorToGateC
import Derived.Test.YtgmelcdgnjcojagDoorToEngM
import Derived.Test.YtgmelcdgnjcojagDoorToWireC
import Derived.BigQuiet
import Derived.Test.YtgmelcdgnjcojagDoorToMapV
namespace Go.Proofs.YtgmelcdgnjcojagDoor
open Go.RowKit Crm

set_option maxRecDepth 100000 in
set_option maxHeartbeats 1000000 in
theorem cDealB (s : Int) (a : Option Addr) (m c : Nat) (xs : List Int) (n : Nat) (w : World) (h : Rd w a m c xs) (hs0 : 0 ≤ s) (hs1 : s ≤ 18446744073709551615) (hm : m ≤ 4) (hn : m < n) (hn9 : n ≤ 9) :
    Calls Tryd.prog 13 #[.int .u64 s, .slice a m c, .int .i64 n] w fun e w' => ∃ v, e = .returned (.tuple #[v, .int .i64 0]) ∧ w'.ownsRow w.heap.size 34 1 v n ((dl (s :: xs) n).map (Value.int .u64)) ∧ Below w.heap.size w w' := by
  obtain ⟨i0, hi, hz0, hz1, hz2⟩ := info_parts info34
  have hlen := h.len
  go_enter Tryd.func13, Tryd.ntmps13
  go_wp2_with (first | (at_builtin; refine wpList_appR Tryd.underlying22 info34 _ rfl _ _ rfl s hs0 hs1 a m c xs h rfl rfl (by omega) ?_; intro a1 c1 w1 hr1 hb1) | (at_make; refine wpList_make_full _ rfl _ _ 22 rfl w1.heap.size 34 i0 (.int .u64 0) 1 Tryd.underlying22 hi hz0 hz1 .i64 .i64 _ _ n rfl rfl (by omega) (by omega) (by rw [hz2]; omega) (by unfold maxLen; omega) (Nat.le_refl _) ?_; intro w2 hown hgrow))
  have hs1 := hb1.size
  have hB2 : Blk w2 w1.heap.size (fil (dlf (s :: xs)) n 0) := by rw [← fil_zero]; exact Blk.made hown
  have hb2 : Below w1.heap.size w1 w2 := (Below.refl _ _).grown hgrow (Nat.le_refl _) (by simp)
  have hb12 : Below w.heap.size w w2 := hb1.trans (hb2.mono hs1)
  clear hown hgrow
  go_loopw [32] (fun i wr => ∃ k : Nat, k ≤ n ∧ i = .int .i64 k ∧ Blk wr w1.heap.size (fil (dlf (s :: xs)) n k) ∧ Below w1.heap.size w1 wr ∧ Below w.heap.size w wr) (fun i _ => n - (intOf i).toNat)
  case atStart => exact ⟨0, Nat.zero_le _, rfl, hB2, hb2, hb12⟩
  case round =>
    clear hB2 hb2 hb12
    obtain ⟨k, hk, rfl, hblk, hbe1, hbel⟩ := hrel
    by_cases hlt : k < n
    · have hr := hr1.below hbe1
      have HF : Hid (nm (ev (s :: xs) ((k : Int) + 1)) = dlf (s :: xs) k) := rfl
      go_wp2_with fail
      refine (cEvalOK _ _ _ _ _ _ hr (by omega) (by omega) (by omega)).mono ?_
      rintro e w3 ⟨rfl, hb3⟩
      rw [HF.out]
      have hblk3 := hblk.below hb3 hblk.lt
      have hcell := hblk3.cell (i := k) (by rw [fil_len]; exact hlt)
      have hfz := hblk3.frozen k
      have hlt3 := hblk3.lt
      have hblk4 := hblk3.set k (dlf (s :: xs) k)
      rw [fil_set rfl] at hblk4
      have hbe3 := hbe1.trans (hb3.mono hbe1.size)
      have hbel3 := hbel.trans (hb3.mono hbel.size)
      have Hb4 : Hid (Below w1.heap.size w1 (w3.setCell ⟨w1.heap.size, k, none⟩ (.int .u64 (dlf (s :: xs) k)))) := hbe3.setCell (Nat.le_refl _) _
      have Hb5 : Hid (Below w.heap.size w (w3.setCell ⟨w1.heap.size, k, none⟩ (.int .u64 (dlf (s :: xs) k)))) := hbel3.setCell hs1 _
      clear hbe1 hbel hb3 hblk hblk3 hbe3 hbel3 hr
      go_wp2
      go_roundw
      case rel => exact ⟨k + 1, by omega, by go_num, hblk4, Hb4.out, Hb5.out⟩
      case measure => simp [intOf]; omega
    · have hkn : k = n := by omega
      subst hkn
      have hr : wr.ownsRow w.heap.size 34 1 (.slice (some ⟨w1.heap.size, 0, none⟩) k k) k ((dl (s :: xs) k).map (Value.int .u64)) := by
        rw [fil_full] at hblk
        exact ⟨by rw [List.length_map, dl_len, Nat.mul_one], .inr ⟨_, k, _, rfl, hs1, hblk, Nat.le_refl _, by unfold maxLen; omega, by simp, by rw [List.toList_toArray, Nat.mul_one, List.take_of_length_le (by simp)]; rfl⟩⟩
      go_wp2
      go_ret2
      exact ⟨_, rfl, hr, hbel⟩
end Go.Proofs.YtgmelcdgnjcojagDoor

namespace Go.Proofs.YtgmelcdgnjcojagDoor
open Go.RowKit Crm

set_option maxRecDepth 100000 in
set_option maxHeartbeats 2000000 in
theorem cKeepK (p : Nat) (G : Nat → Prop) (s : Kt) (a : Option Addr) (c : Nat) (l : List Int) (w : World) (h : Kst w p G s) (r : Rd w a s.n c l) (hl : ∀ x ∈ l, 0 ≤ x ∧ x ≤ 2147483646) (hG : ∀ x, a = some x → G x.block) (hlast : s.last ≤ 1000000) :
    Calls Tryd.prog 62 #[.pointer (some ⟨p, 0, none⟩), .slice a s.n c] w (Kke p G (kadd s l) w) := by
  have H0 : Hid (Stx 107 w p G s) := h
  obtain ⟨⟨b, V, hS, hF⟩, hGl⟩ := h
  obtain ⟨c0, c1, c2, c3⟩ := hS.four
  have hpl := hS.lt
  have hM := hS.map
  by_cases hc : 8 ≤ s.cnt
  · have HE : Hid (kadd s l = (0, 2, s)) := if_pos hc
    have hci : (8 : Int) ≤ (s.cnt : Int) := by omega
    go_enter Tryd.func62, Tryd.ntmps62
    go_wp2_with (at_len; refine wpList_lenK _ rfl _ 105 rfl 22 Tryd.underlying105 b s.cnt V rfl hM ?_)
    go_ret2
    rw [HE.out]
    exact ⟨rfl, H0.out.below (Below.refl _ _), Tch.refl _ _⟩
  · have HE : Hid (kadd s l = ((s.last : Int) + 1, 0, kput s l)) := if_neg hc
    have hci : ¬ ((8 : Int) ≤ (s.cnt : Int)) := by omega
    obtain ⟨L1, HL1⟩ : ∃ L1, Hid ((s.last : Int) + 1 = L1) := ⟨_, rfl⟩
    have hL0 : (s.last : Int) + 1 = L1 := HL1.out
    have hLb : 1 ≤ L1 ∧ L1 ≤ 1000001 := by omega
    have hfz := frozen_of_row w p 2 _ _ hS.row
    have hrow := heap_setCell_same w p 2 _ _ (.int .i64 L1) hS.row
    have hM2 : MapI (w.setCell ⟨p, 2, none⟩ (.int .i64 L1)) b s.cnt V := hM.block (heap_setCell_other w ⟨p, 2, none⟩ b _ hS.ne)
    have d2 : (w.setCell ⟨p, 2, none⟩ (.int .i64 L1)).cell? ⟨p, 2, none⟩ = some (.int .i64 L1) := by rw [cell_of_row _ p 2 _ _ (0, 0) hrow]; simp
    have d3 : (w.setCell ⟨p, 2, none⟩ (.int .i64 L1)).cell? ⟨p, 3, none⟩ = some (.map (some b)) := by rw [cell_of_row _ p 3 _ _ (0, 0) hrow]; simp
    have hpl2 : p < (w.setCell ⟨p, 2, none⟩ (.int .i64 L1)).heap.size := (Array.getElem?_eq_some_iff.1 hrow).1
    obtain ⟨w', hrun, hM3, htn⟩ := (show MapI (w.setCell ⟨p, 2, none⟩ (.int .i64 L1)).drew b s.cnt V from hM2).store (t := 105) Tryd.underlying105 (by have := hS.wf.c8; omega) (k := L1) ⟨by omega, by omega⟩ (.slice a s.n c)
    have hgr := htn.grown
    have hk : ∀ i, i < w.heap.size → i ≠ p → i ≠ b → w'.heap[i]? = w.heap[i]? := fun i hi h1 h2 => by
      rw [hgr.block i (by simpa using hi) (by simpa using h2)]; exact heap_setCell_other w ⟨p, 2, none⟩ i _ h1
    have hrw : w'.heap[p]? = some (.cells #[.int .i64 s.n, .int .i64 s.t, .int .i64 L1, .map (some b)] 107 (0, 0)) := by
      rw [hgr.block p hpl2 (by simpa using hS.ne.symm)]
      refine hrow.trans ?_
      simp
    have HP : Hid (Sto 107 w' p b (mset V ((s.last : Int) + 1) (some (.slice a s.n c))) (kput s l)) := by
      refine hS.put (by omega) hl r (by rw [hL0]; exact hM3) (by rw [hL0]; exact hrw) hk
    have hsz : w.heap.size ≤ w'.heap.size := Nat.le_trans (by simp) hgr.size
    have HX : Hid (Stx 107 w' p (Gnx G w w') (kput s l)) := by
      refine ⟨⟨b, _, HP.out, fun i hi => .inl ?_⟩, Gnx.lt hGl (by omega)⟩
      rcases hi with rfl | rfl | ⟨hh, a', m, c', e, rfl⟩
      · exact hF _ (.inl rfl)
      · exact hF _ (.inr (.inl rfl))
      · unfold mset at e
        split at e
        · simp only [Option.some.injEq, Value.slice.injEq] at e
          exact hG a' e.1
        · exact hF _ (.inr (.inr ⟨hh, a', m, c', e, rfl⟩))
    have HT : Hid (Tch w w' G) := ⟨hgr.os, hgr.tape, hgr.output, by omega, fun i hi hn => hk i hi (fun e => hn (hF _ (.inl e))) (fun e => hn (hF _ (.inr (.inl e))))⟩
    have hc2 : w'.cell? ⟨p, 2, none⟩ = some (.int .i64 L1) := by rw [cell_of_row _ p 2 _ _ (0, 0) hrw]; rfl
    have hpl3 : p < w'.heap.size := by omega
    clear hgr htn hk hrw hM3 hrow hF hGl hG hc
    go_enter Tryd.func62, Tryd.ntmps62
    go_wp2_with (at_len; refine wpList_lenK _ rfl _ 105 rfl 22 Tryd.underlying105 b s.cnt V rfl hM ?_)
    go_region
    all_goals
      go_wp2
      go_ret2
      rw [HE.out, hL0]
      exact ⟨rfl, HX.out, HT.out⟩

set_option maxRecDepth 100000 in
set_option maxHeartbeats 2000000 in
theorem cWith (p : Nat) (G : Nat → Prop) (s : Kt) (a : Option Addr) (c : Nat) (l : List Int) (x : Int) (ad : Option Addr) (cd : Nat) (ds : List Int) (w : World) (h : Kst w p G s) (r : Rd w a s.n c l) (hx0 : 0 ≤ x) (hx1 : x ≤ 18446744073709551615) (rd : Rd w ad s.t cd ds) :
    Calls Tryd.prog 61 #[.pointer (some ⟨p, 0, none⟩), .slice a s.n c, .int .u64 x, .slice ad s.t cd] w fun e w' => ∃ v, e = .returned v ∧ w'.ownsRow w.heap.size 34 1 v s.n ((mxl l (dl (x :: ds) s.n) 1 1 0 s.n).map (Value.int .u64)) ∧ Below w.heap.size w w' := by
  have hw := h.wf
  have ht4 := hw.t4
  have hn9 := hw.n9
  have hnt := hw.nt
  obtain ⟨⟨b, V, hS, _⟩, _⟩ := h
  obtain ⟨c0, c1, c2, c3⟩ := hS.four
  have hpl := hS.lt
  clear hS hw
  obtain ⟨n, HN⟩ : ∃ n, Hid (s.n = n) := ⟨_, rfl⟩
  obtain ⟨t, HT⟩ : ∃ t, Hid (s.t = t) := ⟨_, rfl⟩
  rw [HN.out] at c0 hn9 hnt r ⊢
  rw [HT.out] at c1 ht4 hnt rd ⊢
  go_enter Tryd.func61, Tryd.ntmps61
  go_wp2_with fail
  refine (cDealB x _ _ _ ds n _ rd hx0 hx1 ht4 (by omega) hn9).mono ?_
  rintro e w1 ⟨v1, rfl, ho1, hb1⟩
  obtain ⟨a1, k1, rfl, hr1, _⟩ := Rd.own ho1 (bd_u64 (dl_bd _ _))
  have r1 := r.below hb1
  clear ho1 c0 c1 c2 c3 hpl
  go_wp2_with fail
  refine (cGAdd _ _ _ _ _ _ _ _ _ r1 hr1).mono ?_
  rintro e w2 ⟨⟨hbad, _⟩ | ⟨_, v2, rfl, ho2⟩, hb2⟩
  · exact absurd ⟨⟨by omega, by omega⟩, rfl⟩ hbad
  have ho3 := own_baseV ho2 hb1.size
  have hb3 := hb1.trans (hb2.mono hb1.size)
  clear ho2 hb1 hb2 hr1 r1
  go_wp2
  go_ret
  exact ⟨v2, rfl, ho3, hb3⟩

/-- What both tells. -/
def Kbo (s : Kt) (g x : Int) (w : World) (e : Ending) (w' : World) : Prop :=
  (((s.f g = none ∨ s.f x = none) ∧ ∃ v u, e = .returned (.tuple #[v, u, .bool false])) ∨ ∃ l m ag cg ax cx, s.f g = some l ∧ s.f x = some m ∧ e = .returned (.tuple #[.slice ag s.n cg, .slice ax s.n cx, .bool true]) ∧ Rd w' ag s.n cg l ∧ Rd w' ax s.n cx m) ∧ Below w.heap.size w w'

set_option maxRecDepth 100000 in
set_option maxHeartbeats 2000000 in
theorem cBothK (p : Nat) (G : Nat → Prop) (s : Kt) (g x : Int) (w : World) (h : Kst w p G s) (hg : i64r g) (hx : i64r x) :
    Calls Tryd.prog 82 #[.pointer (some ⟨p, 0, none⟩), .int .i64 g, .int .i64 x] w (Kbo s g x w) := by
  obtain ⟨⟨b, V, hS, _⟩, _⟩ := h
  obtain ⟨c0, c1, c2, c3⟩ := hS.four
  have hpl := hS.lt
  have hM := hS.map
  rcases hS.val g with ⟨fg, vg⟩ | ⟨l, ag, cg, fg, vg, rg⟩
  · have HE : Hid (s.f g = none ∨ s.f x = none) := .inl fg
    have HV : Hid (V g = none) := vg
    clear hS fg vg
    go_enter Tryd.func82, Tryd.ntmps82
    go_wp2_with (at_lookup; refine wpList_lookK _ rfl _ _ 105 rfl 22 Tryd.underlying105 _ (zeroL _) b s.cnt V rfl hM g rfl hg ?_; rw [HV.out]; simp only [Option.getD_none, Option.isSome_none])
    go_ret3
    exact ⟨.inl ⟨HE.out, _, _, rfl⟩, Below.refl _ _⟩
  · have HV : Hid (V g = some (.slice ag s.n cg)) := vg
    rcases hS.val x with ⟨fx, vx⟩ | ⟨m, ax, cx, fx, vx, rx⟩
    · have HE : Hid (s.f g = none ∨ s.f x = none) := .inr fx
      have HX : Hid (V x = none) := vx
      clear hS fg vg fx vx
      go_enter Tryd.func82, Tryd.ntmps82
      go_wp2_with (at_lookup; first | (refine wpList_lookK _ rfl _ _ 105 rfl 22 Tryd.underlying105 _ (zeroL _) b s.cnt V rfl hM g rfl hg ?_; rw [HV.out]; simp only [Option.getD_some, Option.isSome_some]) | (refine wpList_lookK _ rfl _ _ 105 rfl 22 Tryd.underlying105 _ (zeroL _) b s.cnt V rfl hM x rfl hx ?_; rw [HX.out]; simp only [Option.getD_none, Option.isSome_none]))
      go_ret3
      exact ⟨.inl ⟨HE.out, _, _, rfl⟩, Below.refl _ _⟩
    · have HX : Hid (V x = some (.slice ax s.n cx)) := vx
      have HF : Hid (s.f g = some l ∧ s.f x = some m) := ⟨fg, fx⟩
      clear hS fg vg fx vx
      go_enter Tryd.func82, Tryd.ntmps82
      go_wp2_with (at_lookup; first | (refine wpList_lookK _ rfl _ _ 105 rfl 22 Tryd.underlying105 _ (zeroL _) b s.cnt V rfl hM g rfl hg ?_; rw [HV.out]; simp only [Option.getD_some, Option.isSome_some]) | (refine wpList_lookK _ rfl _ _ 105 rfl 22 Tryd.underlying105 _ (zeroL _) b s.cnt V rfl hM x rfl hx ?_; rw [HX.out]; simp only [Option.getD_some, Option.isSome_some]))
      go_ret3
      exact ⟨.inr ⟨l, m, ag, cg, ax, cx, HF.out.1, HF.out.2, rfl, rg, rx⟩, Below.refl _ _⟩
end Go.Proofs.YtgmelcdgnjcojagDoor

namespace Go.Proofs.YtgmelcdgnjcojagDoor
open Crm

theorem mxl_back {n : Nat} {l : List Int} (hl : l.length = n) (hb : ∀ x ∈ l, 0 ≤ x ∧ x ≤ 2147483646) : mxl l (List.replicate n 0) 1 1 0 n = l := by
  refine List.ext_getElem (by rw [mxl_len, hl]) fun i h1 h2 => ?_
  have h := mxl_getD l (List.replicate n 0) 1 1 0 (n := n) (i := i) (by omega)
  rw [List.getD_eq_getElem?_getD, List.getElem?_eq_getElem h1, Option.getD_some] at h
  rw [h]
  have e : (List.replicate n (0 : Int)).getD i 0 = 0 := by simp [List.getElem?_replicate]; split <;> rfl
  rw [e, List.getD_eq_getElem?_getD, List.getElem?_eq_getElem h2, Option.getD_some]
  have hx := hb _ (List.getElem_mem h2)
  rw [Int.one_mul, Int.one_mul, Int.add_zero, Int.add_zero]
  exact nm_small hx.1 hx.2
theorem mxl_more (l K D : List Int) (n : Nat) : mxl (mxl l K 1 1 0 n) D 1 1 0 n = mxl l (mxl K D 1 1 0 n) 1 1 0 n := by
  show (List.range n).map _ = _
  refine mxl_ext fun i hi => ?_
  rw [mxl_getD _ _ _ _ _ hi, mxl_getD _ _ _ _ _ hi]
  simp only [Int.one_mul, Int.add_zero]
  rw [nm_addl, nm_addr, Int.add_assoc]
theorem mxl_two (f g : List Int) (a b : Int) (n : Nat) : mxl (mxl f f a 0 0 n) (mxl g g b 0 0 n) 1 1 0 n = mxl f g a b 0 n := by
  show (List.range n).map _ = _
  refine mxl_ext fun i hi => ?_
  rw [mxl_getD _ _ _ _ _ hi, mxl_getD _ _ _ _ _ hi]
  simp only [Int.one_mul, Int.zero_mul, Int.add_zero]
  rw [nm_addl, nm_addr]
/-- A key's numbers, and what the first i parties dealt of nought. -/
def kra (n t : Nat) (ds l : List Int) : Nat → List Int
  | 0 => l
  | i + 1 => mxl (kra n t ds l i) (dl (kdr t false ds i) n) 1 1 0 n
theorem kra_ksm {n : Nat} (t : Nat) (ds : List Int) {l : List Int} (hl : l.length = n) (hb : ∀ x ∈ l, 0 ≤ x ∧ x ≤ 2147483646) : ∀ i, kra n t ds l i = mxl l (ksm n t false ds i) 1 1 0 n
  | 0 => (mxl_back hl hb).symm
  | i + 1 => by
    rw [kra, kra_ksm t ds hl hb i, ksm]
    exact mxl_more _ _ _ _
theorem kra_len {n : Nat} (t : Nat) (ds : List Int) {l : List Int} (hl : l.length = n) (i : Nat) : (kra n t ds l i).length = n := by
  cases i with
  | zero => exact hl
  | succ i => exact mxl_len _ _ _ _ _ _
theorem kra_bd {n : Nat} (t : Nat) (ds : List Int) {l : List Int} (hb : ∀ x ∈ l, 0 ≤ x ∧ x ≤ 2147483646) (i : Nat) : ∀ x ∈ kra n t ds l i, 0 ≤ x ∧ x ≤ 2147483646 := by
  cases i with
  | zero => exact hb
  | succ i => exact mxl_bd _ _ _ _ _ _
end Go.Proofs.YtgmelcdgnjcojagDoor
