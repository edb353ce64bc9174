/- croftref.NewStore; (*croftref.Store).Drop, Open. · (*croftref.Store).Combine, Multiply. · Package keys: keep, withDealt, both. -/
import Derived.Test.YtgmelcdgnjcojagDoorToRStC
import Derived.Test.YtgmelcdgnjcojagDoorToPlayM
import Derived.Test.YtgmelcdgnjcojagDoorToMapU
import Derived.Test.YtgmelcdgnjcojagDoorToEnD
import Derived.Test.YtgmelcdgnjcojagDoorToGateC
import Derived.Test.YtgmelcdgnjcojagDoorToGateMC
import Derived.Test.YtgmelcdgnjcojagDoorToLsV
import Derived.BigQuiet
namespace Go.Proofs.YtgmelcdgnjcojagDoor
open Go.RowKit Crm

theorem sto_new (w : World) {n t : Nat} (ht : t ≤ 4) (hn : n ≤ 9) (h : 2 * t + 1 ≤ n) (TY : TypeId) {A : World} (hA : A = (w.alloc (.map #[] 0)).alloc (.cells #[.int .i64 n, .int .i64 t, .int .i64 0, .map (some w.heap.size)] TY)) :
    Stx TY A (w.heap.size + 1) (fun i => w.heap.size ≤ i ∧ i < w.heap.size + 2) (k0 n t) ∧ Below w.heap.size w A := by
  subst hA
  have h1 := MapI.made w
  have e1 : (w.alloc (.map #[] 0)).heap.size = w.heap.size + 1 := by simp
  have hb : Below (w.alloc (.map #[] 0)).heap.size (w.alloc (.map #[] 0)) ((w.alloc (.map #[] 0)).alloc (.cells #[.int .i64 n, .int .i64 t, .int .i64 0, .map (some w.heap.size)] TY)) := (Below.refl _ _).alloc (Nat.le_refl _) _
  have h2 := heap_alloc_new (w.alloc (.map #[] 0)) (.cells #[.int .i64 n, .int .i64 t, .int .i64 0, .map (some w.heap.size)] TY)
  rw [e1] at h2
  refine ⟨⟨⟨w.heap.size, fun _ => none, ⟨h2, h1.below hb h1.lt, fun i => .inl ⟨rfl, rfl⟩, k0_wf ht hn h⟩, fun i hi => ?_⟩, fun i hi => by simp; omega⟩, ((Below.refl _ _).alloc (Nat.le_refl _) _).alloc (by simp) _⟩
  rcases hi with rfl | rfl | ⟨_, _, _, _, e, _⟩
  · omega
  · omega
  · cases e

end Go.Proofs.YtgmelcdgnjcojagDoor

namespace Go.Proofs.YtgmelcdgnjcojagDoor
open Go.RowKit Crm

/-- What a handle's look-up tells. -/
theorem Sto.slice {TY : TypeId} {w : World} {p b : Nat} {V : Int → Option Value} {s : Kt} (h : Sto TY w p b V s) {x : Int} {l : List Int} (hf : s.f x = some l) : ∃ a c, V x = some (Value.slice a s.n c) ∧ Rd w a s.n c l := by
  rcases h.val x with e | ⟨l', a, c, e1, e2, e3⟩
  · rw [e.1] at hf; cases hf
  · rw [e1] at hf
    obtain rfl := Option.some.inj hf
    exact ⟨a, c, e2, e3⟩
theorem look_at {w : World} {b q : Nat} {V : Int → Option Value} {x : Int} {v : Value} (h : MapI w b q V) (hv : V x = some v) (hx : i64r x) : (Instr.lookup 105 (.map (some b)) (.int .i64 x) false).run Tryd.prog w = .ok v w := by
  have := (h.look Tryd.underlying105 (zeroL _) hx).2
  rw [hv] at this
  exact this

end Go.Proofs.YtgmelcdgnjcojagDoor

namespace Go.Proofs.YtgmelcdgnjcojagDoor
open Go.RowKit Crm

set_option maxRecDepth 100000 in
set_option maxHeartbeats 2000000 in
theorem cKeepK (p : Nat) (G : Nat → Prop) (s : Kt) (a : Option Addr) (c : Nat) (l : List Int) (w : World) (h : Kst w p G s) (r : Rd w a s.n c l) (hl : ∀ x ∈ l, 0 ≤ x ∧ x ≤ 2147483646) (hG : ∀ x, a = some x → G x.block) (hlast : s.last ≤ 1000000) :
    Calls Tryd.prog 62 #[.pointer (some ⟨p, 0, none⟩), .slice a s.n c] w (Kke p G (kadd s l) w) := by
  have H0 : Hid (Stx 107 w p G s) := h
  obtain ⟨⟨b, V, hS, hF⟩, hGl⟩ := h
  obtain ⟨c0, c1, c2, c3⟩ := hS.four
  have hpl := hS.lt
  have hM := hS.map
  by_cases hc : 8 ≤ s.cnt
  · have HE : Hid (kadd s l = (0, 2, s)) := if_pos hc
    have hci : (8 : Int) ≤ (s.cnt : Int) := by omega
    go_enter Tryd.func62, Tryd.ntmps62
    go_wp2_with (at_len; refine wpList_lenK _ rfl _ 105 rfl 22 Tryd.underlying105 b s.cnt V rfl hM ?_)
    go_ret2
    rw [HE.out]
    exact ⟨rfl, H0.out.below (Below.refl _ _), Tch.refl _ _⟩
  · have HE : Hid (kadd s l = ((s.last : Int) + 1, 0, kput s l)) := if_neg hc
    have hci : ¬ ((8 : Int) ≤ (s.cnt : Int)) := by omega
    obtain ⟨L1, HL1⟩ : ∃ L1, Hid ((s.last : Int) + 1 = L1) := ⟨_, rfl⟩
    have hL0 : (s.last : Int) + 1 = L1 := HL1.out
    have hLb : 1 ≤ L1 ∧ L1 ≤ 1000001 := by omega
    have hfz := frozen_of_row w p 2 _ _ hS.row
    have hrow := heap_setCell_same w p 2 _ _ (.int .i64 L1) hS.row
    have hM2 : MapI (w.setCell ⟨p, 2, none⟩ (.int .i64 L1)) b s.cnt V := hM.block (heap_setCell_other w ⟨p, 2, none⟩ b _ hS.ne)
    have d2 : (w.setCell ⟨p, 2, none⟩ (.int .i64 L1)).cell? ⟨p, 2, none⟩ = some (.int .i64 L1) := by rw [cell_of_row _ p 2 _ _ (0, 0) hrow]; simp
    have d3 : (w.setCell ⟨p, 2, none⟩ (.int .i64 L1)).cell? ⟨p, 3, none⟩ = some (.map (some b)) := by rw [cell_of_row _ p 3 _ _ (0, 0) hrow]; simp
    have hpl2 : p < (w.setCell ⟨p, 2, none⟩ (.int .i64 L1)).heap.size := (Array.getElem?_eq_some_iff.1 hrow).1
    obtain ⟨w', hrun, hM3, htn⟩ := (show MapI (w.setCell ⟨p, 2, none⟩ (.int .i64 L1)).drew b s.cnt V from hM2).store (t := 105) Tryd.underlying105 (by have := hS.wf.c8; omega) (k := L1) ⟨by omega, by omega⟩ (.slice a s.n c)
    have hgr := htn.grown
    have hk : ∀ i, i < w.heap.size → i ≠ p → i ≠ b → w'.heap[i]? = w.heap[i]? := fun i hi h1 h2 => by
      rw [hgr.block i (by simpa using hi) (by simpa using h2)]; exact heap_setCell_other w ⟨p, 2, none⟩ i _ h1
    have hrw : w'.heap[p]? = some (.cells #[.int .i64 s.n, .int .i64 s.t, .int .i64 L1, .map (some b)] 107 (0, 0)) := by
      rw [hgr.block p hpl2 (by simpa using hS.ne.symm)]
      refine hrow.trans ?_
      simp
    have HP : Hid (Sto 107 w' p b (mset V ((s.last : Int) + 1) (some (.slice a s.n c))) (kput s l)) := by
      refine hS.put (by omega) hl r (by rw [hL0]; exact hM3) (by rw [hL0]; exact hrw) hk
    have hsz : w.heap.size ≤ w'.heap.size := Nat.le_trans (by simp) hgr.size
    have HX : Hid (Stx 107 w' p (Gnx G w w') (kput s l)) := by
      refine ⟨⟨b, _, HP.out, fun i hi => .inl ?_⟩, Gnx.lt hGl (by omega)⟩
      rcases hi with rfl | rfl | ⟨hh, a', m, c', e, rfl⟩
      · exact hF _ (.inl rfl)
      · exact hF _ (.inr (.inl rfl))
      · unfold mset at e
        split at e
        · simp only [Option.some.injEq, Value.slice.injEq] at e
          exact hG a' e.1
        · exact hF _ (.inr (.inr ⟨hh, a', m, c', e, rfl⟩))
    have HT : Hid (Tch w w' G) := ⟨hgr.os, hgr.tape, hgr.output, by omega, fun i hi hn => hk i hi (fun e => hn (hF _ (.inl e))) (fun e => hn (hF _ (.inr (.inl e))))⟩
    have hc2 : w'.cell? ⟨p, 2, none⟩ = some (.int .i64 L1) := by rw [cell_of_row _ p 2 _ _ (0, 0) hrw]; rfl
    have hpl3 : p < w'.heap.size := by omega
    clear hgr htn hk hrw hM3 hrow hF hGl hG hc
    go_enter Tryd.func62, Tryd.ntmps62
    go_wp2_with (at_len; refine wpList_lenK _ rfl _ 105 rfl 22 Tryd.underlying105 b s.cnt V rfl hM ?_)
    go_region
    all_goals
      go_wp2
      go_ret2
      rw [HE.out, hL0]
      exact ⟨rfl, HX.out, HT.out⟩

set_option maxRecDepth 100000 in
set_option maxHeartbeats 2000000 in
theorem cWith (p : Nat) (G : Nat → Prop) (s : Kt) (a : Option Addr) (c : Nat) (l : List Int) (x : Int) (ad : Option Addr) (cd : Nat) (ds : List Int) (w : World) (h : Kst w p G s) (r : Rd w a s.n c l) (hx0 : 0 ≤ x) (hx1 : x ≤ 18446744073709551615) (rd : Rd w ad s.t cd ds) :
    Calls Tryd.prog 61 #[.pointer (some ⟨p, 0, none⟩), .slice a s.n c, .int .u64 x, .slice ad s.t cd] w fun e w' => ∃ v, e = .returned v ∧ w'.ownsRow w.heap.size 34 1 v s.n ((mxl l (dl (x :: ds) s.n) 1 1 0 s.n).map (Value.int .u64)) ∧ Below w.heap.size w w' := by
  have hw := h.wf
  have ht4 := hw.t4
  have hn9 := hw.n9
  have hnt := hw.nt
  obtain ⟨⟨b, V, hS, _⟩, _⟩ := h
  obtain ⟨c0, c1, c2, c3⟩ := hS.four
  have hpl := hS.lt
  clear hS hw
  obtain ⟨n, HN⟩ : ∃ n, Hid (s.n = n) := ⟨_, rfl⟩
  obtain ⟨t, HT⟩ : ∃ t, Hid (s.t = t) := ⟨_, rfl⟩
  rw [HN.out] at c0 hn9 hnt r ⊢
  rw [HT.out] at c1 ht4 hnt rd ⊢
  go_enter Tryd.func61, Tryd.ntmps61
  go_wp2_with fail
  refine (cDealB x _ _ _ ds n _ rd hx0 hx1 ht4 (by omega) hn9).mono ?_
  rintro e w1 ⟨v1, rfl, ho1, hb1⟩
  obtain ⟨a1, k1, rfl, hr1, _⟩ := Rd.own ho1 (bd_u64 (dl_bd _ _))
  have r1 := r.below hb1
  clear ho1 c0 c1 c2 c3 hpl
  go_wp2_with fail
  refine (cGAdd _ _ _ _ _ _ _ _ _ r1 hr1).mono ?_
  rintro e w2 ⟨⟨hbad, _⟩ | ⟨_, v2, rfl, ho2⟩, hb2⟩
  · exact absurd ⟨⟨by omega, by omega⟩, rfl⟩ hbad
  have ho3 := own_baseV ho2 hb1.size
  have hb3 := hb1.trans (hb2.mono hb1.size)
  clear ho2 hb1 hb2 hr1 r1
  go_wp2
  go_ret
  exact ⟨v2, rfl, ho3, hb3⟩

/-- What both tells. -/
def Kbo (s : Kt) (g x : Int) (w : World) (e : Ending) (w' : World) : Prop :=
  (((s.f g = none ∨ s.f x = none) ∧ ∃ v u, e = .returned (.tuple #[v, u, .bool false])) ∨ ∃ l m ag cg ax cx, s.f g = some l ∧ s.f x = some m ∧ e = .returned (.tuple #[.slice ag s.n cg, .slice ax s.n cx, .bool true]) ∧ Rd w' ag s.n cg l ∧ Rd w' ax s.n cx m) ∧ Below w.heap.size w w'

set_option maxRecDepth 100000 in
set_option maxHeartbeats 2000000 in
theorem cBothK (p : Nat) (G : Nat → Prop) (s : Kt) (g x : Int) (w : World) (h : Kst w p G s) (hg : i64r g) (hx : i64r x) :
    Calls Tryd.prog 82 #[.pointer (some ⟨p, 0, none⟩), .int .i64 g, .int .i64 x] w (Kbo s g x w) := by
  obtain ⟨⟨b, V, hS, _⟩, _⟩ := h
  obtain ⟨c0, c1, c2, c3⟩ := hS.four
  have hpl := hS.lt
  have hM := hS.map
  rcases hS.val g with ⟨fg, vg⟩ | ⟨l, ag, cg, fg, vg, rg⟩
  · have HE : Hid (s.f g = none ∨ s.f x = none) := .inl fg
    have HV : Hid (V g = none) := vg
    clear hS fg vg
    go_enter Tryd.func82, Tryd.ntmps82
    go_wp2_with (at_lookup; refine wpList_lookK _ rfl _ _ 105 rfl 22 Tryd.underlying105 _ (zeroL _) b s.cnt V rfl hM g rfl hg ?_; rw [HV.out]; simp only [Option.getD_none, Option.isSome_none])
    go_ret3
    exact ⟨.inl ⟨HE.out, _, _, rfl⟩, Below.refl _ _⟩
  · have HV : Hid (V g = some (.slice ag s.n cg)) := vg
    rcases hS.val x with ⟨fx, vx⟩ | ⟨m, ax, cx, fx, vx, rx⟩
    · have HE : Hid (s.f g = none ∨ s.f x = none) := .inr fx
      have HX : Hid (V x = none) := vx
      clear hS fg vg fx vx
      go_enter Tryd.func82, Tryd.ntmps82
      go_wp2_with (at_lookup; first | (refine wpList_lookK _ rfl _ _ 105 rfl 22 Tryd.underlying105 _ (zeroL _) b s.cnt V rfl hM g rfl hg ?_; rw [HV.out]; simp only [Option.getD_some, Option.isSome_some]) | (refine wpList_lookK _ rfl _ _ 105 rfl 22 Tryd.underlying105 _ (zeroL _) b s.cnt V rfl hM x rfl hx ?_; rw [HX.out]; simp only [Option.getD_none, Option.isSome_none]))
      go_ret3
      exact ⟨.inl ⟨HE.out, _, _, rfl⟩, Below.refl _ _⟩
    · have HX : Hid (V x = some (.slice ax s.n cx)) := vx
      have HF : Hid (s.f g = some l ∧ s.f x = some m) := ⟨fg, fx⟩
      clear hS fg vg fx vx
      go_enter Tryd.func82, Tryd.ntmps82
      go_wp2_with (at_lookup; first | (refine wpList_lookK _ rfl _ _ 105 rfl 22 Tryd.underlying105 _ (zeroL _) b s.cnt V rfl hM g rfl hg ?_; rw [HV.out]; simp only [Option.getD_some, Option.isSome_some]) | (refine wpList_lookK _ rfl _ _ 105 rfl 22 Tryd.underlying105 _ (zeroL _) b s.cnt V rfl hM x rfl hx ?_; rw [HX.out]; simp only [Option.getD_some, Option.isSome_some]))
      go_ret3
      exact ⟨.inr ⟨l, m, ag, cg, ax, cx, HF.out.1, HF.out.2, rfl, rg, rx⟩, Below.refl _ _⟩
end Go.Proofs.YtgmelcdgnjcojagDoor
