/- croftkeep.DeskCounts: the walk. -/
import Derived.Test.YtljlioglpaogdafGreatDoorToDskT
import Derived.Test.YtljlioglpaogdafGreatDoorToDskF
import Derived.Test.YtljlioglpaogdafGreatDoorShLay
namespace Go.Proofs.YtljlioglpaogdafGreatDoor
set_option linter.unusedVariables false
set_option maxRecDepth 100000
set_option maxHeartbeats 8000000
section
open Crm Go.RowKit Go.Shelf
theorem isE_mt : mt.toList.isEmpty = true := by decide +kernel
theorem bt_last (x : ByteArray) : bt (x ++ nlB) x.size = 10 := by
  have e : x ++ nlB = toB (x.data.toList ++ [10]) := by rw [← toB_app, toB_list]; rfl
  have hz : x.data.toList.length = x.size := rfl
  have hl : x.size < (x.data.toList ++ [10]).length := by rw [List.length_append, hz]; exact Nat.lt_succ_self _
  rw [e, bt_toB _ hl, List.getElem_append_right (by rw [hz]; exact Nat.le_refl _)]
  simp
theorem Dks.small {L : List ByteArray} : ∀ {i : Nat} {out T : ByteArray} {S : Option Kt}, i ≤ 1000000 → Dks L i out T S → out.size ≤ 200001 * i ∧ T.size ≤ 2048 ∧ ∀ s, S = some s → s.last ≤ i
  | 0, _, _, _, _, h => by
    obtain ⟨rfl, rfl, rfl⟩ := h
    exact ⟨Nat.zero_le _, Nat.zero_le _, fun s e => by cases e⟩
  | i + 1, _, _, _, hi, h => by
    obtain ⟨o0, T0, S0, h0, h1⟩ := h
    obtain ⟨a0, a1, a2⟩ := h0.small (by omega)
    rcases h1 with ⟨_, rfl, rfl, rfl⟩ | ⟨_, x, h1, rfl⟩
    · exact ⟨by omega, a1, fun s e => Nat.le_succ_of_le (a2 s e)⟩
    · obtain ⟨b0, b1, b2⟩ := h1.small a1 (show i ≤ 1000000 by omega) a2
      refine ⟨?_, b1, b2⟩
      rw [ByteArray.size_append, ByteArray.size_append]
      have : nlB.size = 1 := rfl
      omega
theorem ask_le (L : List ByteArray) : ∀ i, ask L i ≤ i
  | 0 => Nat.le_refl 0
  | i + 1 => by
    have := ask_le L i
    rw [ask]
    split <;> omega
theorem ask_yes {L : List ByteArray} {i : Nat} (h : asked (tx L i)) : ask L (i + 1) = ask L i + 1 := by rw [ask, if_pos (show 1 ≤ (wrd (tx L i)).length ∧ bt (tx (wrd (tx L i)) 0) 0 ≠ 35 from h)]
theorem ask_no {L : List ByteArray} {i : Nat} (h : ¬ asked (tx L i)) : ask L (i + 1) = ask L i := by rw [ask, if_neg (show ¬ (1 ≤ (wrd (tx L i)).length ∧ bt (tx (wrd (tx L i)) 0) 0 ≠ 35) from h)]; rfl

theorem deskCountsW (s : ByteArray) (w : World) (hs : s.size ≤ 140737488351232) (hT : Tabs w) (hS : Shp w) (hD : Dsp w) :
    Calls Tryz.prog 4 #[.string s] w fun e w' => e = .returned (.bool true) ∧ Below w.heap.size w w' := by
  go_enter Tryz.func4, Tryz.ntmps4
  go_wp2_with fail
  refine (dRun gxt _ (by decide +kernel) hT hS hD).mono ?_
  rintro e w1 ⟨out, rfl, hd, hb1⟩
  obtain rfl := hd.one gx_dsk
  obtain ⟨u, HU⟩ : ∃ u, Hid (gxo = u) := ⟨_, rfl⟩
  have qo : (u.toList == [101, 114, 114, 111, 114, 32, 52, 10]) = true := by rw [← HU.out]; decide +kernel
  rw [HU.out]
  have hT1 := hT.below hb1
  have hS1 := hS.below hb1
  have hD1 := hD.below hb1
  clear hd
  go_wp2_with fail
  refine (dRun s _ (by omega) hT1 hS1 hD1).mono ?_
  rintro e w2 ⟨out, rfl, hd, hb2⟩
  have hb12 := hb1.trans (hb2.mono hb1.size)
  have HD : Hid (Dsk s out) := hd
  clear hd hb1 hb2 hT1 hS1 hD1
  by_cases hbig : 65536 < s.size
  · have hbi : (65536 : Int) < (s.size : Int) := by omega
    have qb : (out.toList == [101, 114, 114, 111, 114, 32, 50, 10]) = true := by
      rcases HD.out with ⟨_, e⟩ | ⟨h, _⟩
      · rw [e]; decide +kernel
      · exact absurd (.inl hbig) h
    go_wp2
    go_ret
    exact ⟨rfl, hb12⟩
  have hbi : ¬ (65536 : Int) < (s.size : Int) := by omega
  go_wp2_with fail
  refine (rTextLines s _ (by omega)).mono ?_
  rintro e w3 ⟨a, c, rfl, hr, hb3⟩
  have hb13 := hb12.trans (hb3.mono hb12.size)
  have hmax := hr.max
  have hcap := hr.cap
  unfold maxLen at hmax
  have HZ : Hid (∀ x ∈ tln s, x.size ≤ s.size) := tln_size s
  obtain ⟨n, HN⟩ : ∃ n, Hid ((tln s).length = n) := ⟨_, rfl⟩
  rw [HN.out] at hr hcap ⊢
  by_cases h200 : 200 < n
  · have h2i : (200 : Int) < (n : Int) := by omega
    have qb : (out.toList == [101, 114, 114, 111, 114, 32, 50, 10]) = true := by
      rcases HD.out with ⟨_, e⟩ | ⟨h, _⟩
      · rw [e]; decide +kernel
      · exact absurd (.inr (by rw [HN.out]; exact h200)) h
    clear hr hb3 hb12
    go_wp2
    go_ret
    exact ⟨rfl, hb13⟩
  have h2i : ¬ (200 : Int) < (n : Int) := by omega
  clear hr hb3 hb12 hcap hmax
  go_wp2_with fail
  refine (rTextLines s _ (by omega)).mono ?_
  rintro e w4 ⟨a4, c4, rfl, hr, hb4⟩
  have hb14 := hb13.trans (hb4.mono hb13.size)
  have hmax := hr.max
  have hcap := hr.cap
  unfold maxLen at hmax
  rw [HN.out] at hr hcap ⊢
  have HF : Hid (ask (tln s) n ≤ out.data.toList.count 10 ∧ (out = mt ∨ ∃ x, out = x ++ nlB)) := by
    rcases HD.out with ⟨h, _⟩ | ⟨_, T, S, h⟩
    · rw [HN.out] at h; omega
    · rw [HN.out] at h; exact h.count
  have hoz : out.size ≤ 200001 * n := by
    rcases HD.out with ⟨h, _⟩ | ⟨_, T, S, h⟩
    · rw [HN.out] at h; omega
    · rw [HN.out] at h; exact (h.small (by omega)).1
  obtain ⟨L, HL⟩ : ∃ L, Hid (tln s = L) := ⟨_, rfl⟩
  rw [HL.out] at hr HZ HF
  have hlen := hr.len
  clear hb4 hb13
  go_wp2
  go_loopw [4, 26] (fun vk q wr => ∃ i : Nat, i ≤ n ∧ q = .int .i64 (i : Int) ∧ vk = .int .i64 ((ask L i : Nat) : Int) ∧ Below w4.heap.size w4 wr) (fun _ q _ => n - (intOf q).toNat)
  case atStart => exact ⟨0, Nat.zero_le _, rfl, rfl, Below.refl _ _⟩
  case round =>
    obtain ⟨i, hi, rfl, rfl, hbr⟩ := hrel
    have hkl := ask_le L i
    have hrr := hr.below hbr
    have hzr := hbr.size
    by_cases hlt : i < n
    · obtain ⟨b, o, x, rfl, hbb, HX, hxs, hcx⟩ := hrr.one hlt
      have hxz : x.size ≤ s.size := by rw [← HX.out]; exact HZ.out _ (tx_mem (by omega))
      have hlti : (i : Int) < (n : Int) := by omega
      have HY1 : Hid (asked x → ask L (i + 1) = ask L i + 1) := fun h => ask_yes (by rw [HX.out]; exact h)
      have HN1 : Hid (¬ asked x → ask L (i + 1) = ask L i) := fun h => ask_no (by rw [HX.out]; exact h)
      obtain ⟨k, HK⟩ : ∃ k, Hid (ask L i = k) := ⟨_, rfl⟩
      rw [HK.out] at HY1 HN1 hkl ⊢
      go_wp2_with fail
      refine (rLineWords x _ (by omega)).mono ?_
      rintro e w5 ⟨a5, c5, rfl, hr5, hb5⟩
      have hb45 := hbr.trans (hb5.mono hbr.size)
      have HWS : Hid (∀ y ∈ wrd x, 1 ≤ y.size ∧ y.size ≤ x.size) := wrd_size x
      have hwl := wrd_len x
      have hcap5 := hr5.cap
      have hmax5 := hr5.max
      unfold maxLen at hmax5
      obtain ⟨m, HM⟩ : ∃ m, Hid ((wrd x).length = m) := ⟨_, rfl⟩
      rw [HM.out] at hr5 hcap5 hwl ⊢
      clear hrr hbr hb5
      by_cases hm : 0 < m
      · obtain ⟨b2, o2, v, rfl, hbb2, HVV, hvs, hcv⟩ := hr5.one hm
        rw [Nat.add_zero] at hcv
        obtain ⟨hv1, hv2⟩ : 1 ≤ v.size ∧ v.size ≤ x.size := by rw [← HVV.out]; exact HWS.out _ (tx_mem (by rw [HM.out]; exact hm))
        have hmi : (0 : Int) < (m : Int) := by omega
        obtain ⟨y, HY⟩ : ∃ y, Hid (bt v 0 = y) := ⟨_, rfl⟩
        have hix : ∀ W, (Instr.index 9 (.string v) (.int .i64 0)).run Tryz.prog W = .ok (.int .u8 y) W := fun W => by rw [← HY.out]; exact bt_run (P := Tryz.prog) Tryz.underlying9 v (i := 0) (by omega) W
        by_cases hy : y = 35
        · have HNA : Hid (ask L (i + 1) = k) := HN1.out fun h => h.2 (by rw [HVV.out, HY.out, hy])
          have hyn : (y != 35) = false := by rw [bne_eq_false_iff_eq]; exact hy
          clear hy
          go_wp2
          go_roundw
          case rel => exact ⟨i + 1, by omega, by go_num, by rw [HNA.out], hb45⟩
          case measure => simp [intOf]; omega
        · have HAS : Hid (ask L (i + 1) = k + 1) := HY1.out ⟨by rw [HM.out]; exact hm, by rw [HVV.out, HY.out]; exact hy⟩
          have hyn : (y != 35) = true := by rw [bne_iff_ne]; exact hy
          clear hy
          go_wp2
          go_roundw
          case rel => exact ⟨i + 1, by omega, by go_num, by rw [HAS.out]; go_num, hb45⟩
          case measure => simp [intOf]; omega
      · obtain rfl : m = 0 := by omega
        have HNA : Hid (ask L (i + 1) = k) := HN1.out fun h => by have := h.1; rw [HM.out] at this; omega
        go_wp2
        go_roundw
        case rel => exact ⟨i + 1, by omega, by go_num, by rw [HNA.out], hb45⟩
        case measure => simp [intOf]; omega
    · obtain rfl : i = n := by omega
      have hnn : ¬ ((i : Int) < (i : Int)) := by omega
      have hbw := hb14.trans (hbr.mono hb14.size)
      obtain ⟨h1, h2⟩ := HF.out
      have hC := Any.strings_Count_one Tryz.lays138 out 10 wr
      obtain ⟨k, HK⟩ : ∃ k, Hid (ask L i = k) := ⟨_, rfl⟩
      obtain ⟨cn, HCN⟩ : ∃ cn, Hid (out.data.toList.count 10 = cn) := ⟨_, rfl⟩
      rw [HK.out] at h1 hkl ⊢
      rw [HCN.out] at h1
      have hki : decide ((k : Int) ≤ (cn : Int)) = true := decide_eq_true (by omega)
      clear hrr hbr hr
      go_wp2_with fail
      refine hC.mono ?_
      rintro e w6 ⟨rfl, hw6⟩
      subst hw6
      rw [show Lib.countByte out.data.toList 10 = cn from HCN.out]
      rcases h2 with h2 | ⟨x, h2⟩
      · have hE : out.toList.isEmpty = true := by rw [h2]; exact isE_mt
        clear h2 HF HCN HD hC
        go_wp2
        go_ret
        exact ⟨rfl, hbw⟩
      · have hsz : out.size = x.size + 1 := by rw [h2, ByteArray.size_append]; rfl
        have hE : out.toList.isEmpty = false := isE_no (by omega)
        have hxb : x.size ≤ 100000000 := by omega
        have hix : ∀ W, (Instr.index 9 (.string out) (.int .i64 (x.size : Int))).run Tryz.prog W = .ok (.int .u8 10) W := fun W => by
          have hb : bt out x.size = 10 := by rw [h2]; exact bt_last x
          rw [← hb]
          exact bt_run (P := Tryz.prog) Tryz.underlying9 out (i := x.size) (by omega) W
        clear h2 HF HCN HD hC
        go_wp2
        go_ret
        exact ⟨rfl, hbw⟩
end
end Go.Proofs.YtljlioglpaogdafGreatDoor
