/- hide.Shift. · hide.places. -/
import Derived.Test.YtnofegdlainjaaeToHidP
import Derived.Test.YtnofegdlainjaaeToHidW
import Derived.Test.YtnofegdlainjaaeToTellsM
import Derived.Test.YtnofegdlainjaaeToLsV
import Derived.Test.YtnofegdlainjaaeToHdDef
import Derived.Test.YtnofegdlainjaaeToTEqC
import Derived.Test.YtnofegdlainjaaeToRefPolyC
namespace Go.Proofs.Ytnofegdlainjaae
open Go.RowKit Crm

/-- The five numbers are laid. -/
theorem pw_lay (w : World) (C : List Int) : BlkP ((w.alloc (.cells #[.int .u64 0, .int .u64 0, .int .u64 0, .int .u64 0, .int .u64 0] 97)).setRow w.heap.size (C.map (Value.int .u64)).toArray) w.heap.size C ∧ Below w.heap.size w ((w.alloc (.cells #[.int .u64 0, .int .u64 0, .int .u64 0, .int .u64 0, .int .u64 0] 97)).setRow w.heap.size (C.map (Value.int .u64)).toArray) := by
  have h1 : BlkP (w.alloc (.cells #[.int .u64 0, .int .u64 0, .int .u64 0, .int .u64 0, .int .u64 0] 97)) w.heap.size pw0 := heap_alloc_new w _
  exact ⟨h1.row, below_setRow ((Below.refl _ _).alloc (Nat.le_refl _) _) (Nat.le_refl _) _⟩

end Go.Proofs.Ytnofegdlainjaae

namespace Go.Proofs.Ytnofegdlainjaae
open Go.RowKit Crm

/-- What is left of pairs when the first is taken. -/
theorem RdP.tail {w : World} {b o n c : Nat} {p : Int × Int} {l : List (Int × Int)} {a : Option Addr} (h : RdP w (some ⟨b, o, none⟩) (n + 1) (c + 1) (p :: l)) (ha : (0 < n → a = some ⟨b, o + 2, none⟩) ∧ a ≠ none) : RdP w a n c l := by
  have h1 := h.cap
  have h2 := h.max
  refine ⟨by have := h.len; simpa using this, by omega, by omega, fun e => absurd e ha.2, fun x hx i hi => ?_⟩
  rw [ha.1 (by omega)] at hx
  obtain rfl := Option.some.inj hx
  have := h.cell _ rfl (i + 1) (by omega)
  rw [Addr.add_lit, Addr.add_lit] at this ⊢
  rw [show o + 2 + i * 2 = o + (i + 1) * 2 by omega, show o + 2 + (i * 2 + 1) = o + ((i + 1) * 2 + 1) by omega]
  exact this

theorem RdP.grown {w w' : World} {a : Option Addr} {n c : Nat} {l : List (Int × Int)} {r : Option Nat} (h : RdP w a n c l) (hg : w.grownBy w' r) (hne : ∀ x, a = some x → some x.block ≠ r) : RdP w' a n c l := by
  refine ⟨h.len, h.cap, h.max, h.nil, fun x hx i hi => ?_⟩
  have hb : ∀ k, (x.add k).block = x.block := fun k => by unfold Addr.add; split <;> rfl
  have := h.cell x hx i hi
  exact ⟨hg.cell this.1 (by rw [hb]; exact hne x hx), hg.cell this.2 (by rw [hb]; exact hne x hx)⟩

theorem own_ge {w : World} {B g o n m c z : Nat} {E : TypeId} {xs : List Value} (h : w.ownsRow B E z (.slice (some ⟨g, o, none⟩) n c) m xs) : B ≤ g := by
  rcases h.2 with ⟨e, _⟩ | ⟨g', cap, cur, e, hb', _⟩
  · cases e
  · simp only [Value.slice.injEq, Option.some.injEq, Addr.mk.injEq] at e
    rw [e.1.1]
    exact hb'

set_option maxRecDepth 100000 in
set_option maxHeartbeats 2000000 in
theorem hPlaces (t : Nat) (w : World) (ht : t ≤ 4) :
    Calls Try.prog 54 #[.int .i64 t] w fun e w' => ∃ a c, e = .returned (.slice a (need2 t) c) ∧ RdP w' a (need2 t) c (hpi t) ∧ (∀ x, a = some x → w.heap.size ≤ x.block) ∧ Below w.heap.size w w' := by
  obtain ⟨M, HM⟩ : ∃ M, Hid (need2 t = M) := ⟨_, rfl⟩
  have hM : M ≤ 14 := by rw [← HM.out]; exact need2_bd ht
  rw [HM.out]
  go_enter Try.func54, Try.ntmps54
  go_wp2
  go_loopw [3, 8] (fun v i wr => ∃ k p : Nat, k ≤ t + 1 ∧ i = .int .i64 k ∧ Hid (pf t k k = p) ∧ p ≤ M + 1 ∧ wr.ownsRow w.heap.size 59 2 v p (ppc (fpt t p)) ∧ Below w.heap.size w wr) (fun _ i _ => t + 1 - (intOf i).toNat)
  case atStart => exact ⟨0, 0, Nat.zero_le _, rfl, rfl, Nat.zero_le _, World.ownsRow_nil _ _ _ _, Below.refl _ _⟩
  case round =>
    obtain ⟨k, p, hk, rfl, HP, hp, hown, hbel⟩ := hrel
    by_cases hkt : k < t + 1
    · have hkd : decide ((k : Int) < (t : Int) + 1) = true := decide_eq_true (by omega)
      obtain ⟨wo, hwo⟩ : ∃ q, q = wr := ⟨_, rfl⟩
      subst hwo
      go_wp2
      go_loopw [3, 5] (fun v i wr => ∃ j p : Nat, k ≤ j ∧ j ≤ t + 1 ∧ i = .int .i64 j ∧ Hid (pf t k j = p) ∧ p ≤ M + 1 ∧ wr.ownsRow w.heap.size 59 2 v p (ppc (fpt t p)) ∧ Below w.heap.size w wr) (fun _ i _ => t + 1 - (intOf i).toNat)
      case atStart => exact ⟨k, p, Nat.le_refl _, by omega, rfl, HP, hp, hown, hbel⟩
      case round =>
        clear HP hp hown hbel
        obtain ⟨j, p, hkj, hj, rfl, HP, hp, hown, hbel⟩ := hrel
        have hs := hbel.size
        by_cases hjt : j ≤ t
        · have hlt := pf_lt ht hkj hjt
          rw [HP.out, HM.out] at hlt
          have HP2 : Hid (pf t k (j + 1) = p + 1) := by unfold Hid; rw [pf_step ht hkj hjt, HP.out]
          have HF : Hid (fpt t p ++ [((k : Int), (j : Int))] = fpt t (p + 1)) := by unfold Hid; rw [← HP.out]; exact fpt_step ht hkj hjt
          have hjti : (j : Int) ≤ (t : Int) := by omega
          go_wp2_with (at_builtin; refine wpList_app2 Try.underlying50 infoPair rfl (by omega) _ rfl _ _ rfl w.heap.size _ _ _ rfl hown (.int .i64 k) (.int .i64 j) rfl rfl rfl (by omega) hs ?_; intro v7 w7 hown7 hgr7 _; rw [ppc_snoc, HF.out] at hown7; have hb7 := hbel.grown hgr7 hs (fun q hq => (hown.lt q hq).1); clear hgr7 hown hbel)
          go_roundw
          case rel => exact ⟨j + 1, p + 1, by omega, by omega, by go_num, HP2, by omega, hown7, hb7⟩
          case measure => simp [intOf]; omega
        · obtain rfl : j = t + 1 := by omega
          have HP2 : Hid (pf t (k + 1) (k + 1) = p) := by unfold Hid; rw [← pf_row]; exact HP.out
          have hjn : ¬ (((t + 1 : Nat) : Int) ≤ (t : Int)) := by omega
          go_wp2
          go_roundw
          case rel => exact ⟨k + 1, p, by omega, by go_num, HP2, hp, hown, hbel⟩
          case measure => simp [intOf]; omega
    · obtain rfl : k = t + 1 := by omega
      obtain rfl : p = M + 1 := by rw [← HP.out, pf_end ht, HM.out]
      have e1 : fpt t (M + 1) = (0, 0) :: hpi t := by rw [← HM.out]; exact fpt_full ht
      rw [e1] at hown
      obtain ⟨a, c, rfl, hr⟩ := RdP.own hown (by rw [List.length_cons, hpi_len ht, HM.out])
      have hc := hr.cap
      have hcm := hr.max
      unfold maxLen at hcm
      obtain ⟨cd, rfl⟩ : ∃ q, c = q + 1 := ⟨c - 1, by omega⟩
      obtain ⟨b, o, x, y, rfl, hbb, _, _, _⟩ := hr.one (show 0 < M + 1 by omega)
      have hob2 := own_ge hown
      clear hown e1
      by_cases hcd : cd = 0
      · subst hcd
        obtain rfl : M = 0 := by omega
        have hr2 := hr.tail (a := some ⟨b, o, none⟩) ⟨fun h0 => by omega, by simp⟩
        go_wp2
        go_ret
        exact ⟨_, _, rfl, hr2, fun x hx => by obtain rfl := Option.some.inj hx; exact hob2, hbel⟩
      · have hr2 := hr.tail (a := some ⟨b, o + 2, none⟩) ⟨fun h0 => rfl, by simp⟩
        go_wp2
        go_ret
        exact ⟨_, _, rfl, hr2, fun x hx => by obtain rfl := Option.some.inj hx; exact hob2, hbel⟩
end Go.Proofs.Ytnofegdlainjaae
