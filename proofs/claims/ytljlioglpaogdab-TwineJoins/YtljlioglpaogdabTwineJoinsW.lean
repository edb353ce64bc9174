/- The walk of croftlaw.TwineJoins. -/
import Derived.Test.YtljlioglpaogdabToTwByC
import Derived.Test.YtljlioglpaogdabToBadM
import Derived.Test.YtljlioglpaogdabToOpenC
import Derived.Test.YtljlioglpaogdabToTwDlM
import Derived.Test.YtljlioglpaogdabTwJoC
import Derived.Deep.WholeRow
import Derived.Deep.Cut
import Derived.Laws.CopyOwn
import Derived.Laws.AppendOwnNone
namespace Go.Proofs.Ytljlioglpaogdab
set_option linter.unusedVariables false
set_option maxRecDepth 100000
set_option maxHeartbeats 8000000
section
open Crm Go.RowKit
theorem twineJoinsW (t : Int) (a : Option Addr) (n c : Nat) (l : List (Int × List Int)) (w : World) (h : RdW w a n c l) :
    Calls Try.prog 5 #[.int .i64 t, .slice a n c] w fun e w' => e = .returned (.bool true) ∧ Below w.heap.size w w' := by
  go_enter Try.func5, Try.ntmps5
  go_wp2_with fail
  refine (cTwPairs _ _ _ _ _ h).mono ?_
  rintro e w1 ⟨hP, hb1⟩
  have HP : Hid ((¬ Rwk l n ∧ e = .returned (.tuple #[.slice none 0 0, .int .i64 5])) ∨ (Rwk l n ∧ ∃ a k c L, e = .returned (.tuple #[.slice a k c, .int .i64 0]) ∧ RdP w1 a k c L ∧ Prs l n L)) := hP
  clear hP
  rcases HP.out with ⟨hno, rfl⟩ | ⟨hyes, a1, k1, c1, L, rfl, hrP, hPr⟩
  · have HNO : Hid (¬ Rwk l n) := hno
    clear HP hno
    go_wp2_with fail
    refine (cTwJoin _ _ _ _ _ _ (h.below hb1)).mono ?_
    rintro e w2 ⟨x, r, rfl, hJ1, hb2⟩
    have HJ1 : Hid (Jnd l n t x r) := hJ1
    have hw2 := hb1.trans (hb2.mono hb1.size)
    clear hJ1 hb1 hb2
    go_wp2_with fail
    refine (rJoin _ _ _ _ _ _ (h.below hw2)).mono ?_
    rintro e w3 ⟨y, r', rfl, hJ2, hb3⟩
    obtain ⟨rfl, rfl⟩ := HJ1.out.one hJ2
    have hw3 := hw2.trans (hb3.mono hw2.size)
    clear hJ2 HJ1 hb3 hw2
    go_wp2_with fail
    refine (rRows _ _ _ _ _ (h.below hw3)).mono ?_
    rintro e w4 ⟨b, rfl, hb, hb4⟩
    have hbf : b = false := by cases b with
      | false => rfl
      | true => exact absurd (hb.1 rfl) HNO.out
    subst hbf
    have hw4 := hw3.trans (hb4.mono hw3.size)
    clear hb hb4 hw3
    go_wp2
    go_ret
    exact ⟨rfl, hw4⟩
  · have HYES : Hid (Rwk l n) := hyes
    have HPr : Hid (Prs l n L) := hPr
    clear HP hyes hPr
    go_wp2_with fail
    refine (cTwJoin _ _ _ _ _ _ (h.below hb1)).mono ?_
    rintro e w2 ⟨x, r, rfl, hJ1, hb2⟩
    have HJ1 : Hid (Jnd l n t x r) := hJ1
    have hw2 := hb1.trans (hb2.mono hb1.size)
    have hrP := hrP.below hb2
    clear hJ1 hb1 hb2
    go_wp2_with fail
    refine (rJoin _ _ _ _ _ _ (h.below hw2)).mono ?_
    rintro e w3 ⟨y, r', rfl, hJ2, hb3⟩
    obtain ⟨rfl, rfl⟩ := HJ1.out.one hJ2
    have hw3 := hw2.trans (hb3.mono hw2.size)
    have hrP := hrP.below hb3
    clear hJ2 HJ1 hb3 hw2
    go_wp2_with fail
    refine (rRows _ _ _ _ _ (h.below hw3)).mono ?_
    rintro e w4 ⟨b, rfl, hb, hb4⟩
    have hbt : b = true := hb.2 HYES.out
    subst hbt
    have hw4 := hw3.trans (hb4.mono hw3.size)
    have hrP := hrP.below hb4
    clear hb hb4 hw3
    go_wp2_with fail
    refine (rPairs _ _ _ _ _ (h.below hw4) HYES.out).mono ?_
    rintro e w5 ⟨v, K, rfl, hown, hKl, hPr2, hb5⟩
    obtain rfl := HPr.out.one hPr2
    obtain ⟨a5, c5, rfl, hr5⟩ := RdP.own hown rfl
    have hw5 := hw4.trans (hb5.mono hw4.size)
    have hrP := hrP.below hb5
    clear hPr2 hb5 hw4 hown
    go_wp2_with fail
    refine (pSame _ _ _ _ _ _ _ _ hrP hr5).mono ?_
    rintro e w6 ⟨rfl, hb6⟩
    have hw6 := hw5.trans (hb6.mono hw5.size)
    clear hrP hr5 hb6 hw5
    go_wp2
    go_ret
    exact ⟨rfl, hw6⟩
end
end Go.Proofs.Ytljlioglpaogdab
