/- croftkeep.DeskHead: the walk. -/
import Derived.Test.YtljlioglpaogdafGreatDoorToDskT
import Derived.Test.YtljlioglpaogdafGreatDoorToDskF
namespace Go.Proofs.YtljlioglpaogdafGreatDoor
set_option linter.unusedVariables false
set_option maxRecDepth 100000
set_option maxHeartbeats 8000000
section
open Crm Go.RowKit
theorem hPrefix (o r : ByteArray) (w : World) :
    Calls Tryz.prog 17 #[.string (o ++ r), .string o] w fun e w' => e = .returned (.bool true) ∧ Below w.heap.size w w' := by
  have hs : (o ++ r).size = o.size + r.size := ByteArray.size_append ..
  go_enter Tryz.func17, Tryz.ntmps17
  have HX : Hid ((o ++ r).extract 0 o.size = o) := by
    unfold Hid
    apply ByteArray.ext
    rw [ByteArray.data_extract, ByteArray.data_append]
    apply Array.ext'
    rw [Array.toList_extract, Array.toList_append]
    show ((o.data.toList ++ r.data.toList).drop 0).take (o.data.size - 0) = o.data.toList
    simp
  go_wp2
  go_ret
  rw [HX.out]
  exact ⟨by simp, Below.refl _ _⟩

theorem sPrefix (o r : ByteArray) (w : World) :
    Calls Tryz.prog 7 #[.string (o ++ r), .string o] w fun e w' => e = .returned (.bool true) ∧ Below w.heap.size w w' := by
  go_enter Tryz.func7, Tryz.ntmps7
  go_wp2_with fail
  refine (hPrefix o r _).mono ?_
  rintro e w1 ⟨rfl, hb⟩
  go_wp2
  go_ret
  exact ⟨rfl, hb⟩

theorem deskHeadW (s t : ByteArray) (w : World) (hz : s.size ≤ 140737488351232) (hy : t.size ≤ 140737488351232) (hT : Tabs w) (hS : Shp w) (hD : Dsp w) :
    Calls Tryz.prog 3 #[.string s, .string t] w fun e w' => e = .returned (.bool true) ∧ Below w.heap.size w w' := by
  go_enter Tryz.func3, Tryz.ntmps3
  go_wp2_with fail
  refine (dRun fxt _ (by decide +kernel) hT hS hD).mono ?_
  rintro e w1 ⟨out, rfl, hd, hb1⟩
  obtain rfl := hd.one fx_dsk
  obtain ⟨u, HU⟩ : ∃ u, Hid (fxo = u) := ⟨_, rfl⟩
  have qo : (u.toList == [55, 32, 57, 32, 49, 49, 10, 101, 114, 114, 111, 114, 32, 54, 10, 111, 107, 10, 49, 10, 50, 10, 49, 49, 10]) = true := by rw [← HU.out]; decide +kernel
  rw [HU.out]
  have hT1 := hT.below hb1
  have hS1 := hS.below hb1
  have hD1 := hD.below hb1
  have hnl : nlB.size = 1 := rfl
  have a1 := add_big (P := Tryz.prog) s ⟨#[10]⟩ (by have := nl_size; omega)
  obtain ⟨s1, HS1⟩ : ∃ s1, Hid (s ++ ⟨#[10]⟩ = s1) := ⟨_, rfl⟩
  have hs1 : s1.size = s.size + 1 := by rw [← HS1.out, ByteArray.size_append]; rfl
  rw [HS1.out] at a1
  have a2 := add_big (P := Tryz.prog) s1 t (by omega)
  obtain ⟨A, HA⟩ : ∃ A, Hid (s1 ++ t = A) := ⟨_, rfl⟩
  have hAz : A.size = s.size + 1 + t.size := by rw [← HA.out, ByteArray.size_append, hs1]
  rw [HA.out] at a2
  have HAL : Hid ((s ++ nlB) ++ t = A) := by unfold Hid; rw [← HA.out, ← HS1.out]; rfl
  clear hd
  by_cases hbig : 65536 < A.size
  · have hbi : (65536 : Int) < (A.size : Int) := by omega
    clear hAz hs1
    go_wp2
    go_ret
    exact ⟨rfl, hb1⟩
  · have hbi : ¬ (65536 : Int) < (A.size : Int) := by omega
    have hsz : s.size ≤ 65536 := by omega
    clear hAz hs1
    go_wp2_with fail
    refine (rTextLines A _ (by omega)).mono ?_
    rintro e w2 ⟨a, c, rfl, hr, hb2⟩
    have hb12 := hb1.trans (hb2.mono hb1.size)
    have hmax := hr.max
    have hcap := hr.cap
    unfold maxLen at hmax
    obtain ⟨n, HN⟩ : ∃ n, Hid ((tln A).length = n) := ⟨_, rfl⟩
    rw [HN.out] at hr hcap ⊢
    by_cases h200 : 200 < n
    · have h2i : (200 : Int) < (n : Int) := by omega
      clear hr hb1 hb2
      go_wp2
      go_ret
      exact ⟨rfl, hb12⟩
    · have h2i : ¬ (200 : Int) < (n : Int) := by omega
      have HNB : Hid (¬ (65536 < A.size ∨ 200 < (tln A).length)) := by unfold Hid; rw [HN.out]; omega
      have hT2 := hT.below hb12
      have hS2 := hS.below hb12
      have hD2 := hD.below hb12
      clear hr hb1 hb2
      go_wp2_with fail
      refine (dRun A _ (by omega) hT2 hS2 hD2).mono ?_
      rintro e w3 ⟨p, rfl, hdp, hb3⟩
      have hb13 := hb12.trans (hb3.mono hb12.size)
      have hT3 := hT.below hb13
      have hS3 := hS.below hb13
      have hD3 := hD.below hb13
      have HDP : Hid (Dsk A p) := hdp
      clear hdp hb3
      go_wp2_with fail
      refine (dRun s _ (by omega) hT3 hS3 hD3).mono ?_
      rintro e w4 ⟨o, rfl, hdo, hb4⟩
      have hb14 := hb13.trans (hb4.mono hb13.size)
      obtain ⟨r, rfl⟩ : ∃ r, p = o ++ r := by
        have h1 := HDP.out
        rw [← HAL.out] at h1
        exact Dsk.head hdo h1 (by rw [HAL.out]; exact HNB.out)
      clear hdo hb4
      go_wp2_with fail
      refine (sPrefix o r _).mono ?_
      rintro e w5 ⟨rfl, hb5⟩
      have hb15 := hb14.trans (hb5.mono hb14.size)
      clear hb5
      go_wp2
      go_ret
      exact ⟨rfl, hb15⟩
end
end Go.Proofs.YtljlioglpaogdafGreatDoor
