/- twine.Pairs, twine.Join. -/
import Derived.Test.YtljlioglpaogdabToTwByC
import Derived.Test.YtljlioglpaogdabTwApC
import Derived.Test.YtljlioglpaogdabToTwDlM
import Derived.Test.YtljlioglpaogdabToTMeetM
import Derived.Test.YtljlioglpaogdabToOpenC
import Derived.Deep.WholeRow
namespace Go.Proofs.Ytljlioglpaogdab
set_option linter.unusedVariables false
set_option maxRecDepth 100000
set_option maxHeartbeats 8000000
section
open Crm Go.RowKit
theorem pt_new {w : World} {l : List (Int × List Int)} {n : Nat} {S : List Value} (h : Pt w l n S) : BlkV (w.alloc (.cells S.toArray 89)) w.heap.size S ∧ Pt (w.alloc (.cells S.toArray 89)) l n S ∧ Below w.heap.size w (w.alloc (.cells S.toArray 89)) :=
  have hb : Below w.heap.size w (w.alloc (.cells S.toArray 89)) := (Below.refl _ _).alloc (Nat.le_refl _) _
  ⟨heap_alloc_new w _, h.below hb, hb⟩

theorem cTwPairs (a : Option Addr) (n c : Nat) (l : List (Int × List Int)) (w : World) (h : RdW w a n c l) : Calls Try.prog 20 #[.slice a n c] w fun e w' => Pss l n w e w' := by
  go_enter Try.func20, Try.ntmps20
  go_wp2_with fail
  refine (cByParty _ _ _ _ _ h).mono ?_
  rintro e w1 ⟨⟨S, hP, rfl⟩ | ⟨hn, rfl⟩, hb1⟩
  · have HY : Hid (Rwk l n) := hP.rwk
    have Hin : Hid ((Try.prog.info? 89).map (·.size) = some S.toArray.size) := by unfold Hid; rw [hP.size]; exact infoPt
    have Hne : Hid (nil10.toArray.size = S.toArray.size) := by unfold Hid; rw [hP.size]; rfl
    have Hon : Hid (_ = _) := hP.one
    obtain ⟨hB2, hP2, hb2⟩ := pt_new hP
    have HP2 : Hid (Pt _ l n S) := hP2
    clear hP hP2
    go_wp2_with (refine wpList_store_row rfl 89 _ _ rfl w1.heap.size S.toArray rfl rfl 89 nil10.toArray (heap_alloc_new w1 _) Hin.out Hne.out Hon.out ?_; rw [World.setRow_alloc_new]; generalize w1.alloc (.cells S.toArray 89) = w2 at *)
    refine (cApart _ _ _ _ _ hB2 HP2.out).mono ?_
    rintro e w3 ⟨v, K, rfl, hown, hKl, hPr, hb3⟩
    obtain ⟨a5, c5, rfl, hr5⟩ := RdP.own hown rfl
    have HPr : Hid (Prs l n K) := hPr
    have hw2 := hb1.trans (hb2.mono hb1.size)
    have hw3 := hw2.trans (hb3.mono hw2.size)
    obtain ⟨NK, HNK⟩ : ∃ NK, Hid (K.length = NK) := ⟨_, rfl⟩
    rw [HNK.out] at hr5 ⊢
    clear hPr hown hb2 hb1 hb3 hw2 hKl
    go_wp2
    go_ret2
    exact ⟨.inr ⟨HY.out, _, _, _, K, rfl, hr5, HPr.out⟩, hw3⟩
  · have HN : Hid (¬ Rwk l n) := hn
    have hb2 : Below w1.heap.size w1 (w1.alloc (.cells nil10.toArray 89)) := (Below.refl _ _).alloc (Nat.le_refl _) _
    have hw2 := hb1.trans (hb2.mono hb1.size)
    clear hn hb1 hb2
    go_wp2_with (refine wpList_store_row rfl 89 _ _ rfl w1.heap.size nil10.toArray rfl rfl 89 nil10.toArray (heap_alloc_new w1 _) infoPt rfl nil10_one ?_; rw [World.setRow_alloc_new]; generalize w1.alloc (.cells nil10.toArray 89) = w2 at *)
    go_ret2
    exact ⟨.inl ⟨HN.out, rfl⟩, hw2⟩

theorem cTwJoin (t : Int) (a : Option Addr) (n c : Nat) (l : List (Int × List Int)) (w : World) (h : RdW w a n c l) : Calls Try.prog 21 #[.int .i64 t, .slice a n c] w fun e w' => Jns l n t w e w' := by
  have hcap := h.cap
  have hmax := h.max
  unfold maxLen at hmax
  by_cases h1 : t < 0
  · have HT : Hid (t < 0 ∨ 4 < t) := .inl h1
    go_enter Try.func21, Try.ntmps21
    go_wp2
    go_ret2
    exact ⟨0, 1, rfl, .inl ⟨HT.out, rfl, rfl⟩, Below.refl _ _⟩
  · by_cases h2 : 4 < t
    · have HT : Hid (t < 0 ∨ 4 < t) := .inr h2
      go_enter Try.func21, Try.ntmps21
      go_wp2
      go_ret2
      exact ⟨0, 1, rfl, .inl ⟨HT.out, rfl, rfl⟩, Below.refl _ _⟩
    · obtain ⟨k, rfl⟩ : ∃ k : Nat, t = k := ⟨t.toNat, by omega⟩
      go_enter Try.func21, Try.ntmps21
      go_wp2_with fail
      refine (cByParty _ _ _ _ _ h).mono ?_
      rintro e w1 ⟨⟨S, hP, rfl⟩ | ⟨hn, rfl⟩, hb1⟩
      · have HY : Hid (Rwk l n) := hP.rwk
        have hn9 := dis_nine hP.rwk.dis
        have Hin : Hid ((Try.prog.info? 89).map (·.size) = some S.toArray.size) := by unfold Hid; rw [hP.size]; exact infoPt
        have Hne : Hid (nil10.toArray.size = S.toArray.size) := by unfold Hid; rw [hP.size]; rfl
        have Hon : Hid (_ = _) := hP.one
        obtain ⟨hB2, hP2, hb2⟩ := pt_new hP
        have HP2 : Hid (Pt _ l n S) := hP2
        have hw2 := hb1.trans (hb2.mono hb1.size)
        have HK1 : Hid ((k : Int) + 1 = ((k + 1 : Nat) : Int)) := by unfold Hid; omega
        clear hP hP2 hb1 hb2
        go_wp2_with (first | (refine wpList_store_row rfl 89 _ _ rfl w1.heap.size S.toArray rfl rfl 89 nil10.toArray (heap_alloc_new w1 _) Hin.out Hne.out Hon.out ?_; rw [World.setRow_alloc_new]; generalize w1.alloc (.cells S.toArray 89) = w2 at *) | fail)
        rw [HK1.out]
        refine (cAllHave _ _ _ _ (k + 1) _ (h.below hw2)).mono ?_
        rintro e w3 ⟨b, rfl, hb, hb3⟩
        have HB : Hid (_ ↔ _) := hb
        have hw3 := hw2.trans (hb3.mono hw2.size)
        have hB3 := hB2.below hb3 hB2.lt
        have HP3 : Hid (Pt w3 l n S) := HP2.out.below hb3
        clear hb hb3 hB2 HP2 hw2
        cases b with
        | false =>
          have HJ : Hid (Jnd l n k 0 5) := .inr ⟨k, rfl, by omega, .inl ⟨fun e => (by have := HB.out.2 e.2; cases this), rfl, rfl⟩⟩
          go_wp2
          go_ret2
          exact ⟨0, 5, rfl, HJ.out, hw3⟩
        | true =>
          have HW : Hid (Rwt l n k) := ⟨HY.out, HB.out.1 rfl⟩
          clear HB
          by_cases hnk : n ≤ k
          · have HJ : Hid (Jnd l n k 0 4) := .inr ⟨k, rfl, by omega, .inr (.inl ⟨HW.out, hnk, rfl, rfl⟩)⟩
            go_wp2
            go_ret2
            exact ⟨0, 4, rfl, HJ.out, hw3⟩
          · go_wp2_with fail
            refine (cApart _ _ _ _ _ hB3 HP3.out).mono ?_
            rintro e w4 ⟨v, K, rfl, hown, hKl, hPr, hb4⟩
            obtain ⟨a5, c5, rfl, hr5⟩ := RdP.own hown rfl
            have hw4 := hw3.trans (hb4.mono hw3.size)
            by_cases hK0 : K.length = 0
            · have HPr : Hid (Prs l n []) := by unfold Hid; rw [← List.eq_nil_of_length_eq_zero hK0]; exact hPr
              rw [hK0]
              clear hPr hown hr5 hK0 hKl hb4 hw3 hB3 HP3
              go_wp2_with fail
              refine (cStarts _ _ _ _ _ (h.below hw4) hn9 (fun i hi => by rw [HW.out.2 i hi]; omega)).mono ?_
              rintro e w5 ⟨bb, d, rfl, hR5, hb5⟩
              have hw5 := hw4.trans (hb5.mono hw4.size)
              clear hb5 hw4
              go_wp2_with fail
              refine (cOpenS _ _ _ _ _ _ hR5).mono ?_
              rintro e w6 ⟨x, r, rfl, hO, hb6⟩
              have HJ : Hid (Jnd l n k x r) := meet_join HW.out (by omega) (by omega) HPr.out hO
              have hw6 := hw5.trans (hb6.mono hw5.size)
              clear hO hb6 hw5 hR5
              go_wp2
              go_ret2
              exact ⟨x, r, rfl, HJ.out, hw6⟩
            · have HJ : Hid (Jnd l n k 0 6) := meet_not HW.out (by omega) (by omega) hPr hK0
              obtain ⟨NK, HNK⟩ : ∃ NK, Hid (K.length = NK) := ⟨_, rfl⟩
              rw [HNK.out] at hK0 hKl ⊢
              have hNK : (0 : Int) < (NK : Int) := by omega
              clear hPr hown hr5 hK0
              go_wp2
              go_ret2
              exact ⟨0, 6, rfl, HJ.out, hw4⟩
      · have HN : Hid (¬ Rwk l n) := hn
        have hb2 : Below w1.heap.size w1 (w1.alloc (.cells nil10.toArray 89)) := (Below.refl _ _).alloc (Nat.le_refl _) _
        have hw2 := hb1.trans (hb2.mono hb1.size)
        have HJ : Hid (Jnd l n k 0 5) := .inr ⟨k, rfl, by omega, .inl ⟨fun e => HN.out e.1, rfl, rfl⟩⟩
        clear hn hb1 hb2
        go_wp2_with (refine wpList_store_row rfl 89 _ _ rfl w1.heap.size nil10.toArray rfl rfl 89 nil10.toArray (heap_alloc_new w1 _) infoPt rfl nil10_one ?_; rw [World.setRow_alloc_new]; generalize w1.alloc (.cells nil10.toArray 89) = w2 at *)
        go_ret2
        exact ⟨0, 5, rfl, HJ.out, hw2⟩
end
end Go.Proofs.Ytljlioglpaogdab
