/- The walk of croftlaw.GateSays. -/
import Derived.Test.YtljlioglpaogdabToGateC
import Derived.Test.YtljlioglpaogdabToWireC
import Derived.Deep.DeepCutAuto
namespace Go.Proofs.Ytljlioglpaogdab
set_option linter.unusedVariables false
set_option maxRecDepth 100000
set_option maxHeartbeats 8000000
section
open Crm Go.RowKit
/-- The answer where a list may be told, or none. -/
def Ans (ok : Prop) (L : List Int) (_n : Nat) (w : World) (v : Value) (r : Int) : Prop := ∃ a k c xs, v = .slice a k c ∧ Rd w a k c xs ∧ ((¬ ok ∧ xs = [] ∧ r = 5) ∨ (ok ∧ xs = L ∧ r = 0))
theorem Ans.below {ok : Prop} {L : List Int} {n : Nat} {w w' : World} {v : Value} {r : Int} (h : Ans ok L n w v r) (hb : Below w.heap.size w w') : Ans ok L n w' v r := by
  obtain ⟨a, k, c, xs, h1, h2, h3⟩ := h
  exact ⟨a, k, c, xs, h1, h2.below hb, h3⟩
theorem ans_no {ok : Prop} {L : List Int} {n : Nat} (w : World) (h : ¬ ok) : Ans ok L n w (.slice none 0 0) 5 := ⟨none, 0, 0, [], rfl, ⟨rfl, Nat.le_refl _, Nat.zero_le _, by simp, fun _ => rfl, by simp⟩, .inl ⟨h, rfl, rfl⟩⟩
theorem ans_yes {ok : Prop} {L : List Int} {n B : Nat} {w : World} {v : Value} (h : ok) (hL : ∀ x ∈ L, 0 ≤ x ∧ x ≤ 2147483646) (ho : w.ownsRow B 28 1 v n (L.map (Value.int .u64))) : Ans ok L n w v 0 := by
  obtain ⟨a, c, e, hr, _⟩ := Rd.own ho (bd_u64 hL)
  exact ⟨a, n, c, L, e, hr, .inr ⟨h, rfl, rfl⟩⟩
theorem gts_ans {ok : Prop} {L : List Int} {n : Nat} {w w' : World} {e : Ending} (hL : ∀ x ∈ L, 0 ≤ x ∧ x ≤ 2147483646) (h : Gts ok L n w e w') : (∃ v r, e = .returned (.tuple #[v, .int .i64 r]) ∧ Ans ok L n w' v r) ∧ Below w.heap.size w w' := by
  obtain ⟨h1 | ⟨h1, v, h2, h3⟩, hb⟩ := h
  · exact ⟨⟨_, 5, h1.2, ans_no w' h1.1⟩, hb⟩
  · exact ⟨⟨v, 0, h2, ans_yes h1 hL h3⟩, hb⟩
/-- Two such answers are the same. -/
theorem ans_same {ok : Prop} {L : List Int} {n : Nat} {w : World} {v u : Value} {r s : Int} (h : Ans ok L n w v r) (k : Ans ok L n w u s) : r = s ∧ ∃ a n1 c b n2 d xs, v = .slice a n1 c ∧ u = .slice b n2 d ∧ Rd w a n1 c xs ∧ Rd w b n2 d xs := by
  obtain ⟨a, n1, c, xs, h1, h2, h3⟩ := h
  obtain ⟨b, n2, d, ys, k1, k2, k3⟩ := k
  rcases h3 with ⟨h4, rfl, rfl⟩ | ⟨h4, rfl, rfl⟩ <;> rcases k3 with ⟨k4, rfl, rfl⟩ | ⟨k4, rfl, rfl⟩
  · exact ⟨rfl, a, n1, c, b, n2, d, [], h1, k1, h2, k2⟩
  · exact absurd k4 h4
  · exact absurd h4 k4
  · exact ⟨rfl, a, n1, c, b, n2, d, _, h1, k1, h2, k2⟩

theorem lGateSays (a : Option Addr) (n c : Nat) (xs : List Int) (b : Option Addr) (m d : Nat) (ys : List Int) (k : Int) (w : World) (h : Rd w a n c xs) (g : Rd w b m d ys) (hk0 : 0 ≤ k) (hk1 : k ≤ 18446744073709551615) :
    Calls Try.prog 6 #[.slice a n c, .slice b m d, .int .u64 k] w fun e w' => e = .returned (.bool true) ∧ Below w.heap.size w w' := by
  have hmx := h.max
  have hgx := g.max
  have hc := h.cap
  have gc := g.cap
  unfold maxLen at hmx hgx
  go_enter Try.func6, Try.ntmps6
  have hRL := rdL_one w a n c 23
  have hbA : Below w.heap.size w (w.alloc (.cells #[.slice a n c] 23)) := (Below.refl _ _).alloc (Nat.le_refl _) _
  go_wp2_with fail
  generalize w.alloc (.cells #[.slice a n c] 23) = wA at *
  refine (rWire _ _ _ _ hRL (by omega) (by omega) (len_one (by omega))).mono ?_
  rintro e w1 ⟨r, rfl, hr, hb1⟩
  rw [wk_one] at hr
  have HR : Hid (_ ↔ _) := hr
  have hbw := hbA.trans (hb1.mono hbA.size)
  have hs1 := hbw.size
  clear hr hb1 hbA hRL
  go_upto_if 23 with fail
  go_cut [7, 11, 12] (fun s7 s11 s12 wx => ∃ r1, s7 = .int .i64 r1 ∧ Hid (Ans (Wr1 n) (mxl xs xs k 0 0 n) n wx s11 r1) ∧ Hid (Ans (Wr1 n) (mxl xs xs 1 0 k n) n wx s12 r1) ∧ Below w.heap.size w wx)
  case first =>
    cases r with
    | false =>
      have HN : Hid (¬ Wr1 n) := fun e => by have := HR.out.2 e; cases this
      go_wp2
      all_goals
        go_meet
        case rel => exact ⟨5, rfl, ans_no _ HN.out, ans_no _ HN.out, hbw⟩
    | true =>
      have HY : Hid (Wr1 n) := HR.out.1 rfl
      have hn9 := HY.out.2
      go_wp2_with fail
      refine (rMixed _ _ _ _ _ _ _ k 0 0 _ (h.below hbw) (h.below hbw) (by omega) hk0 hk1 (by omega) (by omega) (by omega) (by omega)).mono ?_
      rintro e w2 ⟨v, rfl, hown, hb2⟩
      have hbw2 := hbw.trans (hb2.mono hs1)
      have HA2 : Hid (Ans (Wr1 n) (mxl xs xs k 0 0 n) n w2 v 0) := ans_yes HY.out (mxl_bd _ _ _ _ _ _) hown
      clear hown hb2
      go_wp2_with fail
      refine (rMixed _ _ _ _ _ _ _ 1 0 k _ (h.below hbw2) (h.below hbw2) (by omega) (by omega) (by omega) (by omega) (by omega) hk0 hk1).mono ?_
      rintro e w3 ⟨v3, rfl, hown, hb3⟩
      have hbw3 := hbw2.trans (hb3.mono hbw2.size)
      have HA3 : Hid (Ans (Wr1 n) (mxl xs xs 1 0 k n) n w3 v3 0) := ans_yes HY.out (mxl_bd _ _ _ _ _ _) hown
      have HA4 : Hid (Ans (Wr1 n) (mxl xs xs k 0 0 n) n w3 v 0) := HA2.out.below hb3
      clear hown hb3 HA2
      go_wp2
      all_goals
        go_meet
        case rel => exact ⟨0, rfl, HA4, HA3, hbw3⟩
  case rest =>
    obtain ⟨r1, rfl, HA1, HA2, hbx⟩ := hcut
    obtain ⟨w2, hw2⟩ : ∃ w2, w2 = wc := ⟨_, rfl⟩
    subst hw2
    have hRL := rdL_two w2 a n c b m d 23
    have hbA : Below w2.heap.size w2 (w2.alloc (.cells #[.slice a n c, .slice b m d] 23)) := (Below.refl _ _).alloc (Nat.le_refl _) _
    clear HR hbw hs1
    go_wp2_with fail
    generalize w2.alloc (.cells #[.slice a n c, .slice b m d] 23) = wB at *
    refine (rWire _ _ _ _ hRL (by omega) (by omega) (len_two (by omega) (by omega))).mono ?_
    rintro e w3 ⟨r', rfl, hr, hb1⟩
    rw [wk_two] at hr
    have HR : Hid (_ ↔ _) := hr
    have hb23 := hbA.trans (hb1.mono hbA.size)
    have hbw3 := hbx.trans (hb23.mono hbx.size)
    have HA3 : Hid (Ans (Wr1 n) (mxl xs xs k 0 0 n) n w3 _ r1) := HA1.out.below hb23
    have HA4 : Hid (Ans (Wr1 n) (mxl xs xs 1 0 k n) n w3 _ r1) := HA2.out.below hb23
    clear hr hb1 hbA hRL HA1 HA2 hb23 hbx
    go_upto_if 35 with fail
    go_cut [8, 9, 10] (fun s8 s9 s10 wx => ∃ r2, s8 = .int .i64 r2 ∧ Hid (Ans (Wr2 n m) (mxl xs ys 1 1 0 n) n wx s9 r2) ∧ Hid (Ans (Wr2 n m) (mxl xs ys 1 2147483646 0 n) n wx s10 r2) ∧ Below w3.heap.size w3 wx)
    case first =>
      cases r' with
      | false =>
        have HN : Hid (¬ Wr2 n m) := fun e => by have := HR.out.2 e; cases this
        go_wp2
        all_goals
          go_meet
          case rel => exact ⟨5, rfl, ans_no _ HN.out, ans_no _ HN.out, Below.refl _ _⟩
      | true =>
        have HY : Hid (Wr2 n m) := HR.out.1 rfl
        obtain rfl : m = n := HY.out.2
        have hn9 := HY.out.1.2
        go_wp2_with fail
        refine (rMixed _ _ _ _ _ _ _ 1 1 0 _ (h.below hbw3) (g.below hbw3) (by omega) (by omega) (by omega) (by omega) (by omega) (by omega) (by omega)).mono ?_
        rintro e w4 ⟨v, rfl, hown, hb4⟩
        have hbw4 := hbw3.trans (hb4.mono hbw3.size)
        have HA5 : Hid (Ans (Wr2 m m) (mxl xs ys 1 1 0 m) m w4 v 0) := ans_yes HY.out (mxl_bd _ _ _ _ _ _) hown
        clear hown
        go_wp2_with fail
        refine (rMixed _ _ _ _ _ _ _ 1 2147483646 0 _ (h.below hbw4) (g.below hbw4) (by omega) (by omega) (by omega) (by omega) (by omega) (by omega) (by omega)).mono ?_
        rintro e w5 ⟨v5, rfl, hown, hb5⟩
        have hb35 := hb4.trans (hb5.mono hb4.size)
        have HA6 : Hid (Ans (Wr2 m m) (mxl xs ys 1 2147483646 0 m) m w5 v5 0) := ans_yes HY.out (mxl_bd _ _ _ _ _ _) hown
        have HA7 : Hid (Ans (Wr2 m m) (mxl xs ys 1 1 0 m) m w5 v 0) := HA5.out.below hb5
        clear hown hb5 hb4 HA5 hbw4
        go_wp2
        all_goals
          go_meet
          case rel => exact ⟨0, rfl, HA7, HA6, hb35⟩
    case rest =>
      obtain ⟨r2, rfl, HA5, HA6, hbx⟩ := hcut
      obtain ⟨w4, hw4⟩ : ∃ w4, w4 = wc := ⟨_, rfl⟩
      subst hw4
      have hbw4 := hbw3.trans (hbx.mono hbw3.size)
      have HA7 : Hid (Ans (Wr1 n) (mxl xs xs k 0 0 n) n w4 _ r1) := HA3.out.below hbx
      have HA8 : Hid (Ans (Wr1 n) (mxl xs xs 1 0 k n) n w4 _ r1) := HA4.out.below hbx
      clear HA3 HA4 HR hbx hbw3
      go_wp2_with fail
      refine (cGAdd _ _ _ _ _ _ _ _ _ (h.below hbw4) (g.below hbw4)).mono ?_
      rintro e w5 hG
      obtain ⟨⟨v1, q1, rfl, hA1⟩, hb5⟩ := gts_ans (mxl_bd _ _ _ _ _ _) hG
      have hbw5 := hbw4.trans (hb5.mono hbw4.size)
      have HB1 : Hid (Ans _ _ n w5 v1 q1) := hA1
      clear hA1 hG
      go_wp2_with fail
      refine (cGSub _ _ _ _ _ _ _ _ _ (h.below hbw5) (g.below hbw5)).mono ?_
      rintro e w6 hG
      obtain ⟨⟨v2, q2, rfl, hA2⟩, hb6⟩ := gts_ans (mxl_bd _ _ _ _ _ _) hG
      have hbw6 := hbw5.trans (hb6.mono hbw5.size)
      have HB2 : Hid (Ans _ _ n w6 v2 q2) := hA2
      clear hA2 hG
      go_wp2_with fail
      refine (cGScale _ _ _ _ _ _ (h.below hbw6) hk0 hk1).mono ?_
      rintro e w7 hG
      obtain ⟨⟨v3, q3, rfl, hA3⟩, hb7⟩ := gts_ans (mxl_bd _ _ _ _ _ _) hG
      have hbw7 := hbw6.trans (hb7.mono hbw6.size)
      have HB3 : Hid (Ans _ _ n w7 v3 q3) := hA3
      clear hA3 hG
      go_wp2_with fail
      refine (cGPlus _ _ _ _ _ _ (h.below hbw7) hk0 hk1).mono ?_
      rintro e w8 hG
      obtain ⟨⟨v4, q4, rfl, hA4⟩, hb8⟩ := gts_ans (mxl_bd _ _ _ _ _ _) hG
      have hbw8 := hbw7.trans (hb8.mono hbw7.size)
      have hb68 := hb7.trans (hb8.mono hb7.size)
      have hb58 := hb6.trans (hb68.mono hb6.size)
      have hb48 := hb5.trans (hb58.mono hb5.size)
      obtain ⟨e1, a1, n1, c1, b1, m1, d1, x1, rfl, rfl, ra1, rb1⟩ := ans_same (HB1.out.below hb58) (HA5.out.below hb48)
      obtain ⟨e2, a2, n2, c2, b2, m2, d2, x2, rfl, rfl, ra2, rb2⟩ := ans_same (HB2.out.below hb68) (HA6.out.below hb48)
      obtain ⟨e3, a3, n3, c3, b3, m3, d3, x3, rfl, rfl, ra3, rb3⟩ := ans_same (HB3.out.below hb8) (HA7.out.below hb48)
      obtain ⟨e4, a4, n4, c4, b4, m4, d4, x4, rfl, rfl, ra4, rb4⟩ := ans_same hA4 (HA8.out.below hb48)
      subst e1 e2 e3 e4
      clear hG hA4 HB1 HB2 HB3 HA5 HA6 HA7 HA8 hb5 hb6 hb7 hb8 hb68 hb58 hb48 hbw4 hbw5 hbw6 hbw7
      go_wp2_with fail
      refine (cSame _ _ _ _ _ _ _ _ ra1 rb1).mono ?_
      rintro e w9 ⟨rfl, hb9⟩
      have hbw9 := hbw8.trans (hb9.mono hbw8.size)
      go_wp2_with fail
      refine (cSame _ _ _ _ _ _ _ _ (ra2.below hb9) (rb2.below hb9)).mono ?_
      rintro e w10 ⟨rfl, hb10⟩
      have hbw10 := hbw9.trans (hb10.mono hbw9.size)
      go_wp2_with fail
      refine (cSame _ _ _ _ _ _ _ _ ((ra3.below hb9).below hb10) ((rb3.below hb9).below hb10)).mono ?_
      rintro e w11 ⟨rfl, hb11⟩
      have hbw11 := hbw10.trans (hb11.mono hbw10.size)
      go_wp2_with fail
      refine (cSame _ _ _ _ _ _ _ _ (((ra4.below hb9).below hb10).below hb11) (((rb4.below hb9).below hb10).below hb11)).mono ?_
      rintro e w12 ⟨rfl, hb12⟩
      have hbw12 := hbw11.trans (hb12.mono hbw11.size)
      clear ra1 ra2 ra3 ra4 rb1 rb2 rb3 rb4 hb9 hb10 hb11 hb12
      go_wp2
      go_ret
      exact ⟨rfl, hbw12⟩
end
end Go.Proofs.Ytljlioglpaogdab
