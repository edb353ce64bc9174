/- croftlaw.same: two lists of lists that read the same. · The walk of croftlaw.GateMuls. -/
import Derived.Test.YtfonochdnmddlabToRows2
import Derived.Test.YtfonochdnmddlabToFaceC
import Derived.Test.YtfonochdnmddlabToWireC
import Derived.Test.YtfonochdnmddlabToGateMC
namespace Go.Proofs.Ytfonochdnmddlab
open Go.RowKit Crm

set_option maxRecDepth 100000 in
theorem lSame1 (a : Option Addr) (n c : Nat) (b : Option Addr) (m d : Nat) (xs : List Int) (w : World) (h : Rd w a n c xs) (g : Rd w b m d xs) :
    Calls Try.prog 67 #[.slice a n c, .slice b m d] w fun e w' => e = .returned (.bool true) ∧ Below w.heap.size w w' := by
  go_enter Try.func67, Try.ntmps67
  go_wp2_with fail
  refine (cSame _ _ _ _ _ _ _ _ h g).mono ?_
  rintro e w1 ⟨rfl, hb1⟩
  go_wp2
  go_ret
  exact ⟨rfl, hb1⟩

set_option maxRecDepth 100000 in
set_option maxHeartbeats 1000000 in
theorem lEqualFunc (a : Option Addr) (n c : Nat) (b : Option Addr) (d : Nat) (l : List (List Int)) (w : World) (h : RdR w a n c l) (g : RdR w b n d l) :
    Calls Try.prog 66 #[.slice a n c, .slice b n d, .func (.func 67) #[] #[]] w fun e w' => e = .returned (.bool true) ∧ Below w.heap.size w w' := by
  have hcap := h.cap
  have hmax := h.max
  unfold maxLen at hmax
  go_enter Try.func66, Try.ntmps66
  go_wp2
  go_loopw [17] (fun i wr => ∃ k : Nat, k ≤ n ∧ i = .int .i64 k ∧ Below w.heap.size w wr) (fun i _ => n - (intOf i).toNat)
  case atStart => exact ⟨0, Nat.zero_le _, rfl, Below.refl _ _⟩
  case round =>
    obtain ⟨k, hk, rfl, hbel⟩ := hrel
    have hs1 := hbel.size
    by_cases hlt : k < n
    · obtain ⟨b1, o1, a1, n1, c1, row, rfl, hbb, HRow, hcr, hrow⟩ := (h.below hbel).one hlt
      obtain ⟨b2, o2, a2, n2, c2, row2, rfl, hbb2, HRow2, hcr2, hrow2⟩ := (g.below hbel).one hlt
      obtain rfl : row = row2 := HRow.out.symm.trans HRow2.out
      clear HRow HRow2
      go_wp2_with fail
      refine (lSame1 _ _ _ _ _ _ _ _ hrow hrow2).mono ?_
      rintro e w3 ⟨rfl, hb3⟩
      have hw3 := hbel.trans (hb3.mono hs1)
      clear hrow hrow2 hbel hb3
      go_wp2
      go_roundw
      case rel => exact ⟨k + 1, by omega, by go_num, hw3⟩
      case measure => simp [intOf]; omega
    · have hkn : k = n := by omega
      subst hkn
      go_wp2
      go_ret
      exact ⟨rfl, hbel⟩

set_option maxRecDepth 100000 in
theorem lSame (a : Option Addr) (n c : Nat) (b : Option Addr) (m d : Nat) (l : List (List Int)) (w : World) (h : RdR w a n c l) (g : RdR w b m d l) :
    Calls Try.prog 34 #[.slice a n c, .slice b m d] w fun e w' => e = .returned (.bool true) ∧ Below w.heap.size w w' := by
  obtain rfl : n = m := h.len.symm.trans g.len
  go_enter Try.func34, Try.ntmps34
  go_wp2_with fail
  refine (lEqualFunc _ _ _ _ _ _ _ h g).mono ?_
  rintro e w1 ⟨rfl, hb1⟩
  go_wp2
  go_ret
  exact ⟨rfl, hb1⟩
end Go.Proofs.Ytfonochdnmddlab

namespace Go.Proofs.Ytfonochdnmddlab
open Go.RowKit Crm

set_option maxRecDepth 100000 in
set_option maxHeartbeats 2000000 in
theorem lGateMuls (t : Int) (a : Option Addr) (n c : Nat) (xs : List Int) (b : Option Addr) (m d : Nat) (ys : List Int) (e0 : Option Addr) (q f : Nat) (ds : List Int) (w : World) (h : Rd w a n c xs) (g : Rd w b m d ys) (k : Rd w e0 q f ds) :
    Calls Try.prog 7 #[.int .i64 t, .slice a n c, .slice b m d, .slice e0 q f] w fun e w' => e = .returned (.bool true) ∧ Below w.heap.size w w' := by
  have hmx := h.max
  have hgx := g.max
  have hkx := k.max
  have hc := h.cap
  have gc := g.cap
  have kc := k.cap
  unfold maxLen at hmx hgx hkx
  have nilR : ∀ w : World, RdR w none 0 0 [] := fun w => ⟨rfl, Nat.le_refl _, Nat.zero_le _, fun _ => rfl, by simp⟩
  have nilD : ∀ w : World, Rd w none 0 0 [] := fun w => ⟨rfl, Nat.le_refl _, Nat.zero_le _, by simp, fun _ => rfl, by simp⟩
  by_cases ht : t < 0 ∨ 4 < t
  · have HT : Hid (t < 0 ∨ 4 < t) := ht
    have HG : Hid (Gme t n m q 1) := .inl ⟨ht, rfl⟩
    clear ht
    go_enter Try.func7, Try.ntmps7
    go_wp2_with (go_at_call 16; refine (rInN _ _ _ _ HT.out).mono ?_; rintro e w' ⟨rfl, hw⟩; have hw := hw.symm; subst hw)
    refine (cGMul _ _ _ _ _ _ _ _ _ _ _ _ _ _ h g k).mono ?_
    rintro e w2 ⟨⟨r, hr, hG, rfl⟩ | ⟨hG, _⟩, hb2⟩
    · obtain rfl := hG.one HG.out
      clear hG hr
      go_wp2_with (first | (go_at_call 12; refine (cSame _ _ _ _ _ _ _ _ (nilD _) (nilD _)).mono ?_; rintro e w3 ⟨rfl, hb3⟩) | (go_at_call 34; refine (lSame _ _ _ _ _ _ _ _ (nilR _) (nilR _)).mono ?_; rintro e w4 ⟨rfl, hb4⟩))
      go_ret
      exact ⟨rfl, (hb2.trans (hb3.mono hb2.size)).trans (hb4.mono (hb2.trans (hb3.mono hb2.size)).size)⟩
    · exact absurd (hG.one HG.out) (by omega)
  · obtain ⟨k4, rfl⟩ : ∃ k : Nat, t = k := ⟨t.toNat, by omega⟩
    have hRL := rdL_two w a n c b m d 23
    have hbA : Below w.heap.size w (w.alloc (.cells #[.slice a n c, .slice b m d] 23)) := (Below.refl _ _).alloc (Nat.le_refl _) _
    go_enter Try.func7, Try.ntmps7
    go_wp2_with (go_at_call 16; refine (rInY _ _ _ _ (by omega) (by omega)).mono ?_; rintro e w' ⟨rfl, hw⟩; have hw := hw.symm; subst hw)
    generalize w.alloc (.cells #[.slice a n c, .slice b m d] 23) = wA at *
    refine (rWire _ _ _ _ hRL (by omega) (by omega) (len_two (by omega) (by omega))).mono ?_
    rintro e w1 ⟨r, rfl, hr, hb1⟩
    rw [wk_two] at hr
    have HR : Hid (_ ↔ _) := hr
    have hbw := hbA.trans (hb1.mono hbA.size)
    clear hr hb1 hbA hRL
    cases r with
    | false =>
      have HN : Hid (¬ Wr2 n m) := fun e => by have := HR.out.2 e; cases this
      have HG : Hid (Gme k4 n m q 5) := .inr ⟨⟨by omega, by omega⟩, .inl ⟨HN.out, rfl⟩⟩
      go_wp2_with fail
      refine (cGMul _ _ _ _ _ _ _ _ _ _ _ _ _ _ (h.below hbw) (g.below hbw) (k.below hbw)).mono ?_
      rintro e w2 ⟨⟨r, hr, hG, rfl⟩ | ⟨hG, _⟩, hb2⟩
      · obtain rfl := hG.one HG.out
        have hbw2 := hbw.trans (hb2.mono hbw.size)
        clear hG hr hb2
        go_wp2_with (first | (go_at_call 12; refine (cSame _ _ _ _ _ _ _ _ (nilD _) (nilD _)).mono ?_; rintro e w3 ⟨rfl, hb3⟩) | (go_at_call 34; refine (lSame _ _ _ _ _ _ _ _ (nilR _) (nilR _)).mono ?_; rintro e w4 ⟨rfl, hb4⟩))
        go_ret
        exact ⟨rfl, (hbw2.trans (hb3.mono hbw2.size)).trans (hb4.mono (hbw2.trans (hb3.mono hbw2.size)).size)⟩
      · exact absurd (hG.one HG.out) (by omega)
    | true =>
      have HY : Hid (Wr2 n m) := HR.out.1 rfl
      obtain rfl : m = n := HY.out.2
      have hn1 := HY.out.1.1
      have hn9 := HY.out.1.2
      by_cases h2 : m < 2 * k4 + 1
      · have HG : Hid (Gme k4 m m q 4) := .inr ⟨⟨by omega, by omega⟩, .inr ⟨HY.out, .inl ⟨by omega, rfl⟩⟩⟩
        go_wp2_with fail
        refine (cGMul _ _ _ _ _ _ _ _ _ _ _ _ _ _ (h.below hbw) (g.below hbw) (k.below hbw)).mono ?_
        rintro e w2 ⟨⟨r, hr, hG, rfl⟩ | ⟨hG, _⟩, hb2⟩
        · obtain rfl := hG.one HG.out
          have hbw2 := hbw.trans (hb2.mono hbw.size)
          clear hG hr hb2
          go_wp2_with (first | (go_at_call 12; refine (cSame _ _ _ _ _ _ _ _ (nilD _) (nilD _)).mono ?_; rintro e w3 ⟨rfl, hb3⟩) | (go_at_call 34; refine (lSame _ _ _ _ _ _ _ _ (nilR _) (nilR _)).mono ?_; rintro e w4 ⟨rfl, hb4⟩))
          go_ret
          exact ⟨rfl, (hbw2.trans (hb3.mono hbw2.size)).trans (hb4.mono (hbw2.trans (hb3.mono hbw2.size)).size)⟩
        · exact absurd (hG.one HG.out) (by omega)
      · obtain ⟨P, HP⟩ : ∃ P, Hid (m * k4 = P) := ⟨_, rfl⟩
        have hP : (m : Int) * (k4 : Int) = (P : Int) := by rw [← HP.out]; push_cast; rfl
        have hP36 : P ≤ 36 := by rw [← HP.out]; exact Nat.le_trans (Nat.mul_le_mul hn9 (show k4 ≤ 4 by omega)) (by omega)
        by_cases hq : q = P
        · have hqb : ((q : Int) != (P : Int)) = false := by rw [bne_eq_false_iff_eq]; omega
          have HQ : Hid (q = m * k4) := by unfold Hid; rw [HP.out]; exact hq
          have HG : Hid (Gme k4 m m q 0) := .inr ⟨⟨by omega, by omega⟩, .inr ⟨HY.out, .inr ⟨by omega, .inr ⟨by rw [hP]; omega, rfl⟩⟩⟩⟩
          clear hq
          go_wp2_with fail
          refine (rTimes _ _ _ _ _ _ _ _ _ _ _ _ _ (h.below hbw) (g.below hbw) (k.below hbw) (by omega) hn1 hn9 HQ.out).mono ?_
          rintro e w2 ⟨v, u, L, rfl, hown, hL, hb2⟩
          have hbw2 := hbw.trans (hb2.mono hbw.size)
          obtain ⟨a2, c2, rfl, hr2, _⟩ := Rd.own hown (bd_u64 (tmO_bd _ _ _ _ _ _))
          obtain ⟨a3, c3, rfl, hr3⟩ := hL.rdR (tmG_len _ _ _ _ _) (fun i hi => by rw [tmG_getD _ _ _ _ hi]; exact bd_u64 (tmR_bd _ _ _ _ _ _))
          clear hown hL hb2
          go_wp2_with fail
          refine (cGMul _ _ _ _ _ _ _ _ _ _ _ _ _ _ (h.below hbw2) (g.below hbw2) (k.below hbw2)).mono ?_
          rintro e w4 ⟨⟨r, hr, hG, rfl⟩ | ⟨hG, v, u, L, rfl, hown, hL⟩, hb4⟩
          · exact absurd (hG.one HG.out) hr
          · obtain ⟨a5, c5, rfl, hr5, _⟩ := Rd.own hown (bd_u64 (tmO_bd _ _ _ _ _ _))
            obtain ⟨a6, c6, rfl, hr6⟩ := hL.rdR (tmG_len _ _ _ _ _) (fun i hi => by rw [tmG_getD _ _ _ _ hi]; exact bd_u64 (tmR_bd _ _ _ _ _ _))
            have hbw4 := hbw2.trans (hb4.mono hbw2.size)
            have hr2' := hr2.below hb4
            have hr3' := hr3.below hb4
            rw [Int.toNat_natCast] at hr5 hr6
            clear hown hL hG hb4 hr2 hr3
            go_wp2_with fail
            refine (cSame _ _ _ _ _ _ _ _ hr5 hr2').mono ?_
            rintro e w5 ⟨rfl, hb5⟩
            go_wp2_with fail
            refine (lSame _ _ _ _ _ _ _ _ (hr6.below hb5) (hr3'.below hb5)).mono ?_
            rintro e w6 ⟨rfl, hb6⟩
            have hbw5 := hbw4.trans (hb5.mono hbw4.size)
            have hbw6 := hbw5.trans (hb6.mono hbw5.size)
            clear hb5 hb6 hr5 hr6 hr2' hr3'
            go_wp2
            go_ret
            exact ⟨rfl, hbw6⟩
        · have hqb : ((q : Int) != (P : Int)) = true := by rw [bne_iff_ne]; omega
          have HG : Hid (Gme k4 m m q 1) := .inr ⟨⟨by omega, by omega⟩, .inr ⟨HY.out, .inr ⟨by omega, .inl ⟨by rw [hP]; omega, rfl⟩⟩⟩⟩
          clear hq
          go_wp2_with fail
          refine (cGMul _ _ _ _ _ _ _ _ _ _ _ _ _ _ (h.below hbw) (g.below hbw) (k.below hbw)).mono ?_
          rintro e w2 ⟨⟨r, hr, hG, rfl⟩ | ⟨hG, _⟩, hb2⟩
          · obtain rfl := hG.one HG.out
            have hbw2 := hbw.trans (hb2.mono hbw.size)
            clear hG hr hb2
            go_wp2_with (first | (go_at_call 12; refine (cSame _ _ _ _ _ _ _ _ (nilD _) (nilD _)).mono ?_; rintro e w3 ⟨rfl, hb3⟩) | (go_at_call 34; refine (lSame _ _ _ _ _ _ _ _ (nilR _) (nilR _)).mono ?_; rintro e w4 ⟨rfl, hb4⟩))
            go_ret
            exact ⟨rfl, (hbw2.trans (hb3.mono hbw2.size)).trans (hb4.mono (hbw2.trans (hb3.mono hbw2.size)).size)⟩
          · exact absurd (hG.one HG.out) (by omega)
end Go.Proofs.Ytfonochdnmddlab
