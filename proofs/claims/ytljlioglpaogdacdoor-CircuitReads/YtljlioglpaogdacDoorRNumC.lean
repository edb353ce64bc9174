/- Package numeral: read, ReadAll. -/
import Derived.Test.YtljlioglpaogdacDoorToNumbC
import Derived.Test.YtljlioglpaogdacDoorDealC
namespace Go.Proofs.YtljlioglpaogdacDoor
set_option linter.unusedVariables false
set_option maxRecDepth 100000
set_option maxHeartbeats 8000000
section
open Crm Go.RowKit
/-- What readNumber answers. -/
def Rnb (s : ByteArray) (w : World) (e : Ending) (w' : World) : Prop := ((okd s ∧ e = .returned (.tuple #[.int .u64 (dgn s s.size), .bool true])) ∨ (¬ okd s ∧ e = .returned (.tuple #[.int .u64 0, .bool false]))) ∧ w' = w

theorem cNumber (s : ByteArray) (w : World) (hs : s.size ≤ 9223372036854775807) :
    Calls Tryd.prog 61 #[.string s] w fun e w' => Rnb s w e w' := by
  go_enter Tryd.func61, Tryd.ntmps61
  by_cases h1 : s.size < 1
  · have HN : Hid (¬ okd s) := fun o => by have := o.1; omega
    go_wp2
    go_ret2
    exact ⟨.inr ⟨HN.out, rfl⟩, rfl⟩
  by_cases h10 : 10 < s.size
  · have HN : Hid (¬ okd s) := fun o => by have := o.1; omega
    go_wp2
    go_ret2
    exact ⟨.inr ⟨HN.out, rfl⟩, rfl⟩
  by_cases hz : 1 < s.size ∧ bt s 0 = 48
  · have HN : Hid (¬ okd s) := fun o => o.2.2 hz
    have hix := fun w => bt_run (P := Tryd.prog) Tryd.underlying9 s (i := 0) (by omega) w
    rw [hz.2] at hix
    simp only [Int.natCast_zero] at hix
    have hz1 := hz.1
    clear hz
    go_wp2
    go_ret2
    exact ⟨.inr ⟨HN.out, rfl⟩, rfl⟩
  have HZ : Hid (¬ (1 < s.size ∧ bt s 0 = 48)) := hz
  obtain ⟨x, HX⟩ : ∃ x, Hid (bt s 0 = x) := ⟨_, rfl⟩
  have hx := bt_bd s 0
  have hix := fun w => bt_run (P := Tryd.prog) Tryd.underlying9 s (i := 0) (by omega) w
  rw [HX.out] at hx hix hz
  simp only [Int.natCast_zero] at hix
  have hlp : (1 < s.size ∧ (x == 48) = false) ∨ s.size = 1 := by
    by_cases e : 1 < s.size
    · exact .inl ⟨e, by rw [beq_eq_false_iff_ne]; exact fun e' => hz ⟨e, e'⟩⟩
    · exact .inr (by omega)
  clear hz
  rcases hlp with ⟨hp1, hp2⟩ | hp1
  all_goals
    go_wp2
    clear hix
    try clear hp2
    go_loopw [4, 26] (fun v i wr => ∃ k : Nat, k ≤ s.size ∧ i = .int .i64 k ∧ v = .int .u64 (dgn s k) ∧ Hid (dgs s k) ∧ wr = w) (fun _ i _ => 11 - (intOf i).toNat)
    case atStart => exact ⟨0, Nat.zero_le _, rfl, rfl, dgs_zero s, rfl⟩
    case round =>
      obtain ⟨k, hk, rfl, rfl, HD, rfl⟩ := hrel
      by_cases hlt : k < s.size
      · obtain ⟨x, HX⟩ : ∃ x, Hid (bt s k = x) := ⟨_, rfl⟩
        have hx := bt_bd s k
        have hix := fun w => bt_run (P := Tryd.prog) Tryd.underlying9 s hlt w
        rw [HX.out] at hx hix
        have hd := dgn_bd HD.out
        have ht := ten_le (k := k) (by omega)
        obtain ⟨d, Hd⟩ : ∃ d, Hid (dgn s k = d) := ⟨_, rfl⟩
        rw [Hd.out] at hd ⊢
        have hd2 : d ≤ 9999999999 := by omega
        have hd0 := hd.1
        clear hd ht
        have HN : Hid (x < 48 ∨ 57 < x → ¬ okd s) := fun e o => dgs_not hlt (by rw [HX.out]; exact e) o.2.1
        by_cases hlo : x < 48
        · go_wp2
          go_ret2
          exact ⟨.inr ⟨HN.out (.inl hlo), rfl⟩, rfl⟩
        · by_cases hhi : 57 < x
          · go_wp2
            go_ret2
            exact ⟨.inr ⟨HN.out (.inr hhi), rfl⟩, rfl⟩
          · have HD2 : Hid (dgs s (k + 1)) := dgs_succ HD.out (by rw [HX.out]; omega) (by rw [HX.out]; omega)
            have HV : Hid (dgn s (k + 1) = d * 10 + (x - 48)) := by unfold Hid; rw [dgn, Hd.out, HX.out]; omega
            go_wp2
            go_roundw
            case rel => exact ⟨k + 1, by omega, by go_num, by rw [HV.out], HD2, trivial⟩
            case measure => simp [intOf]; omega
      · have hks : k = s.size := by omega
        have hn1 : ¬ ((k : Int) < (s.size : Int)) := by omega
        have HY : Hid (okd s) := ⟨⟨by omega, by omega⟩, by rw [← hks]; exact HD.out, HZ.out⟩
        have HV : Hid (dgn s k = dgn s s.size) := by unfold Hid; rw [hks]
        go_wp2
        go_ret2
        exact ⟨.inl ⟨HY.out, by first | (rw [← HV.out]; rfl) | (rw [hp1]; rfl)⟩, rfl⟩
theorem cNumberY (s : ByteArray) (w : World) (hs : s.size ≤ 9223372036854775807) (h : okd s) :
    Calls Tryd.prog 61 #[.string s] w fun e w' => e = .returned (.tuple #[.int .u64 (dgn s s.size), .bool true]) ∧ w' = w := by
  refine (cNumber s w hs).mono ?_
  rintro e w' ⟨⟨_, he⟩ | ⟨h', _⟩, hw⟩
  · exact ⟨he, hw⟩
  · exact absurd h h'
theorem cNumberN (s : ByteArray) (w : World) (hs : s.size ≤ 9223372036854775807) (h : ¬ okd s) :
    Calls Tryd.prog 61 #[.string s] w fun e w' => e = .returned (.tuple #[.int .u64 0, .bool false]) ∧ w' = w := by
  refine (cNumber s w hs).mono ?_
  rintro e w' ⟨⟨h', _⟩ | ⟨_, he⟩, hw⟩
  · exact absurd h' h
  · exact ⟨he, hw⟩
/-- What readNumbers answers. -/
def Nmc (L : List ByteArray) (n : Nat) (w : World) (e : Ending) (w' : World) : Prop :=
  ((¬ okn L n ∧ e = .returned (.tuple #[.slice none 0 0, .bool false])) ∨ (okn L n ∧ ∃ g, e = .returned (.tuple #[.slice (some ⟨g, 0, none⟩) n n, .bool true]) ∧ w.heap.size ≤ g ∧ Blk w' g (nbl L n))) ∧ Below w.heap.size w w'

theorem cNumbers (a : Option Addr) (n c : Nat) (L : List ByteArray) (w : World) (h : RdT w a n c L) (hn : n ≤ 100000) :
    Calls Tryd.prog 40 #[.slice a n c] w fun e w' => Nmc L n w e w' := by
  obtain ⟨i0, hi0, hz0, hz1, hz2⟩ := info_parts info43
  have hcap := h.cap
  go_enter Tryd.func40, Tryd.ntmps40
  go_wp2_with (at_make; refine wpList_make_full _ rfl _ _ 31 rfl w.heap.size 43 i0 (.int .u64 0) 1 Tryd.underlying31 hi0 hz0 hz1 .i64 .i64 _ _ n rfl rfl (by omega) (by omega) (by rw [hz2]; omega) (by unfold maxLen; omega) (Nat.le_refl _) ?_; intro w2 hown hgrow)
  have hB2 : Blk w2 w.heap.size (fil (fun i => dgn (tx L i) (tx L i).size) n 0) := by rw [← fil_zero]; exact Blk.made hown
  have hb2 : Below w.heap.size w w2 := (Below.refl _ _).grown hgrow (Nat.le_refl _) (by simp)
  clear hown hgrow
  go_loopw [14] (fun i wr => ∃ k : Nat, k ≤ n ∧ i = .int .i64 k ∧ Hid (okn L k) ∧ Blk wr w.heap.size (fil (fun i => dgn (tx L i) (tx L i).size) n k) ∧ Below w.heap.size w wr) (fun i _ => n - (intOf i).toNat)
  case atStart => exact ⟨0, Nat.zero_le _, rfl, fun i hi => by omega, hB2, hb2⟩
  case round =>
    clear hB2 hb2
    obtain ⟨k, hk, rfl, HO, hB, hbel⟩ := hrel
    by_cases hlt : k < n
    · obtain ⟨b, o, x, rfl, hbb, HX, hxs, hc⟩ := (h.below hbel).one hlt
      by_cases hok : okd x
      · have hcell := hB.cell (i := k) (by rw [fil_len]; exact hlt)
        have hfz := hB.frozen k
        have hlt3 := hB.lt
        have hk0 : (0 : Int) ≤ (k : Int) := by omega
        have hkn : (k : Int) < (n : Int) := by omega
        obtain ⟨d, Hd⟩ : ∃ d, Hid (dgn x x.size = d) := ⟨_, rfl⟩
        have hset := hB.set k d
        rw [fil_set (by show d = dgn (tx L k) (tx L k).size; rw [HX.out, Hd.out])] at hset
        have Hbl : Hid (Blk _ _ _) := hset
        have HO2 : Hid (okn L (k + 1)) := okn_succ HO.out (by rw [HX.out]; exact hok)
        have Hb5 : Hid (Below w.heap.size w (wr.setCell ⟨w.heap.size, k, none⟩ (.int .u64 d))) := hbel.setCell (Nat.le_refl _) _
        have HOK : Hid (okd x) := hok
        clear hB hset hbel hok
        go_wp2_with (go_at_call 61; refine (cNumberY _ _ hxs HOK.out).mono ?_; rintro e w' ⟨rfl, hw⟩; have hw := hw.symm; subst hw; rw [Hd.out])
        go_roundw
        case rel => exact ⟨k + 1, by omega, by go_num, HO2, Hbl.out, Hb5.out⟩
        case measure => simp [intOf]; omega
      · have HN : Hid (¬ okn L n) := fun e => hok (by rw [← HX.out]; exact e k hlt)
        have HOK : Hid (¬ okd x) := hok
        clear hok
        go_wp2_with (go_at_call 61; refine (cNumberN _ _ hxs HOK.out).mono ?_; rintro e w' ⟨rfl, hw⟩; have hw := hw.symm; subst hw)
        go_ret2
        exact ⟨.inl ⟨HN.out, rfl⟩, hbel⟩
    · have hkn : k = n := by omega
      subst hkn
      rw [fil_full] at hB
      go_wp2
      go_ret2
      exact ⟨.inr ⟨HO.out, _, rfl, Nat.le_refl _, hB⟩, hbel⟩
end
end Go.Proofs.YtljlioglpaogdacDoor
