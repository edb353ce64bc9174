/- Package gate: wires, reckonBoth, reckonEach, and Add, Sub, Scale, Plus by them. · gate.Add, Sub, Scale, Plus. · gate.dealAll. · gate.weigh. -/
import Derived.Test.YtljlioglpaogdagDoorToTwByM
import Derived.Test.YtljlioglpaogdagDoorToOpenC
import Derived.Deep.RegionWith
import Derived.BigQuiet
import Derived.Test.YtljlioglpaogdagDoorToSubC
import Derived.Test.YtljlioglpaogdagDoorToLsV2
import Derived.Test.YtljlioglpaogdagDoorToBadM
namespace Go.Proofs.YtljlioglpaogdagDoor
set_option linter.unusedVariables false
set_option maxRecDepth 100000
set_option maxHeartbeats 8000000
section
open Crm Go.RowKit
/-- A row of the call's own, all of it. -/
theorem Blk.mine {w : World} {g n B : Nat} {L : List Int} (h : Blk w g L) (hl : L.length = n) (hB : B ≤ g) (hn : n ≤ 1000) : w.ownsRow B 34 1 (.slice (some ⟨g, 0, none⟩) n n) n (L.map (Value.int .u64)) :=
  ⟨by simp [hl], .inr ⟨g, n, _, rfl, hB, h, Nat.le_refl _, by unfold maxLen; omega, by simp [hl], by rw [List.take_of_length_le (by simp [hl])]⟩⟩

theorem cWires (g k : Nat) (ns : List Nat) (w : World) (h : RdL w g k ns) (hk0 : 0 < k) (hk : k ≤ 100) (hm : ∀ i, ns.getD i 0 ≤ 9223372036854775807) :
    Calls Tryd.prog 85 #[.slice (some ⟨g, 0, none⟩) k k] w fun e w' => Tells (Wk ns k) w e w' := by
  have hgl := h.lt
  obtain ⟨a0, c0, hc0⟩ := h.cell 0 hk0
  obtain ⟨N, HN⟩ : ∃ N, Hid (ns.getD 0 0 = N) := ⟨_, rfl⟩
  have hN := hm 0
  rw [HN.out] at hc0 hN
  have HM : Hid (∀ i, ns.getD i 0 ≤ 9223372036854775807) := hm
  clear hm
  go_enter Tryd.func85, Tryd.ntmps85
  go_wp2
  go_loop [7] (fun q => ∃ i : Nat, i ≤ k ∧ q = .int .i64 i ∧ Hid (∀ j, j < i → (1 ≤ ns.getD j 0 ∧ ns.getD j 0 ≤ 9) ∧ ns.getD j 0 = N)) (fun q => k - (intOf q).toNat)
  case atStart => exact ⟨0, Nat.zero_le _, rfl, fun j hj => by omega⟩
  case round =>
    obtain ⟨i, hi, rfl, HB⟩ := hrel
    by_cases hlt : i < k
    · obtain ⟨ai, ci, hci⟩ := h.cell i hlt
      obtain ⟨M, HMi⟩ : ∃ M, Hid (ns.getD i 0 = M) := ⟨_, rfl⟩
      have hM := HM.out i
      rw [HMi.out] at hci hM
      by_cases h1 : M < 1
      · have HX : Hid (¬ Wk ns k) := fun e => by have h2 := e.2 i hlt; have h3 := e.1; rw [← h2, HMi.out] at h3; omega
        clear HB
        go_wp2
        go_ret
        exact .no HX.out (Below.refl _ _)
      · by_cases h9 : 9 < M
        · have HX : Hid (¬ Wk ns k) := fun e => by have h2 := e.2 i hlt; have h3 := e.1; rw [← h2, HMi.out] at h3; omega
          clear HB
          go_wp2
          go_ret
          exact .no HX.out (Below.refl _ _)
        · by_cases hMN : M = N
          · have hmb : ((M : Int) != (N : Int)) = false := by rw [bne_eq_false_iff_eq]; omega
            have HB2 : Hid (∀ j, j < i + 1 → (1 ≤ ns.getD j 0 ∧ ns.getD j 0 ≤ 9) ∧ ns.getD j 0 = N) := fun j hj => by
              by_cases e : j = i
              · rw [e, HMi.out]; exact ⟨by omega, hMN⟩
              · exact HB.out j (by omega)
            clear hMN HB
            go_wp2
            go_round
            case rel => exact ⟨i + 1, by omega, by go_num, HB2⟩
            case measure => simp [intOf]; omega
          · have hmb : ((M : Int) != (N : Int)) = true := by rw [bne_iff_ne]; omega
            have HX : Hid (¬ Wk ns k) := fun e => hMN (by have h2 := e.2 i hlt; rw [HMi.out, HN.out] at h2; exact h2)
            clear hMN HB
            go_wp2
            go_ret
            exact .no HX.out (Below.refl _ _)
    · have hik : i = k := by omega
      subst hik
      have HE : Hid (Wk ns i) := by
        unfold Hid Wk
        rw [HN.out]
        have h0 := HB.out 0 hk0
        rw [HN.out] at h0
        exact ⟨h0.1, fun j hj => (HB.out j hj).2⟩
      clear HB
      go_wp2
      go_ret
      exact .yes HE.out (Below.refl _ _)

theorem cBoth (F : Nat) (op : Int → Int → Int) (eg : ∀ args w, (callFunc F args).run Tryd.prog w = .ok (.enter F args) w) (HF : Hid (∀ (x y : Int) (w : World), 0 ≤ x → x ≤ 18446744073709551615 → 0 ≤ y → y ≤ 18446744073709551615 → Calls Tryd.prog F #[.int .u64 x, .int .u64 y] w fun e w' => e = .returned (.int .u64 (nm (op x y))) ∧ w' = w)) (a : Option Addr) (n c : Nat) (xs : List Int) (b : Option Addr) (m d : Nat) (ys : List Int) (w : World) (h : Rd w a n c xs) (g : Rd w b m d ys) :
    Calls Tryd.prog 54 #[.func (.func F) #[] #[], .slice a n c, .slice b m d] w fun e w' => Gts (Wr2 n m) ((List.range n).map fun i => nm (op (xs.getD i 0) (ys.getD i 0))) n w e w' := by
  obtain ⟨i0, hi, hz0, hz1, hz2⟩ := info_parts info34
  have hmx := h.max
  have hgx := g.max
  have hc := h.cap
  have gc := g.cap
  unfold maxLen at hmx hgx
  have hRL := rdL_two w a n c b m d 22
  have hbA : Below w.heap.size w (w.alloc (.cells #[.slice a n c, .slice b m d] 22)) := (Below.refl _ _).alloc (Nat.le_refl _) _
  go_enter Tryd.func54, Tryd.ntmps54
  go_wp2_with fail
  generalize w.alloc (.cells #[.slice a n c, .slice b m d] 22) = wA at *
  refine (cWires _ _ _ _ hRL (by omega) (by omega) (len_two (by omega) (by omega))).mono ?_
  rintro e w1 ⟨r, rfl, hr, hb1⟩
  rw [wk_two] at hr
  have HR : Hid (_ ↔ _) := hr
  have hbw := hbA.trans (hb1.mono hbA.size)
  clear hr hb1 hbA hRL
  cases r with
  | false =>
    have HN : Hid (¬ Wr2 n m) := fun e => by have := HR.out.2 e; cases this
    go_wp2
    go_ret2
    exact ⟨.inl ⟨HN.out, rfl⟩, hbw⟩
  | true =>
    have HY : Hid (Wr2 n m) := HR.out.1 rfl
    obtain rfl : m = n := HY.out.2
    have hn9 := HY.out.1.2
    have hs1 := hbw.size
    go_wp2_with (at_make; refine wpList_make_full _ rfl _ _ 22 rfl w1.heap.size 34 i0 (.int .u64 0) 1 Tryd.underlying22 hi hz0 hz1 .i64 .i64 _ _ m rfl rfl (by omega) (by omega) (by rw [hz2]; omega) (by unfold maxLen; omega) (Nat.le_refl _) ?_; intro w2 hown hgrow)
    have hB2 : Blk w2 w1.heap.size (fil (fun i => nm (op (xs.getD i 0) (ys.getD i 0))) m 0) := by rw [← fil_zero]; exact Blk.made hown
    have hb2 : Below w1.heap.size w1 w2 := (Below.refl _ _).grown hgrow (Nat.le_refl _) (by simp)
    have hb12 : Below w.heap.size w w2 := hbw.trans (hb2.mono hs1)
    clear hown hgrow hb2
    go_loopw [20] (fun i wr => ∃ k : Nat, k ≤ m ∧ i = .int .i64 k ∧ Blk wr w1.heap.size (fil (fun i => nm (op (xs.getD i 0) (ys.getD i 0))) m k) ∧ Below w.heap.size w wr) (fun i _ => m - (intOf i).toNat)
    case atStart => exact ⟨0, Nat.zero_le _, rfl, hB2, hb12⟩
    case round =>
      clear hB2 hb12
      obtain ⟨k, hk, rfl, hblk, hbel⟩ := hrel
      by_cases hlt : k < m
      · obtain ⟨b1, o1, x, rfl, hbb1, HX, hx0, hx1, hcx⟩ := (h.below hbel).one hlt
        obtain ⟨b2, o2, y, rfl, hbb2, HY2, hy0, hy1, hcy⟩ := (g.below hbel).one hlt
        have hcell := hblk.cell (i := k) (by rw [fil_len]; exact hlt)
        have hfz := hblk.frozen k
        have hlt3 := hblk.lt
        have hblk4 := hblk.set k (nm (op x y))
        rw [fil_set (by rw [← HX.out, ← HY2.out])] at hblk4
        have Hbl : Hid (Blk _ _ _) := hblk4
        have Hb5 : Hid (Below w.heap.size w (wr.setCell ⟨w1.heap.size, k, none⟩ (.int .u64 (nm (op x y))))) := hbel.setCell hs1 _
        have hk0 : (0 : Int) ≤ (k : Int) := by omega
        have hkn : (k : Int) < (m : Int) := by omega
        clear hbel hblk hblk4
        go_wp2
        go_region_with (refine (HF.out _ _ _ (by omega) (by omega) (by omega) (by omega)).mono ?_; rintro e w' ⟨rfl, rfl⟩)
        all_goals
          go_wp2
          go_roundw
          case rel => exact ⟨k + 1, by omega, by go_num, Hbl.out, Hb5.out.drew⟩
          case measure => simp [intOf]; omega
      · have hkm : k = m := by omega
        subst hkm
        rw [fil_full] at hblk
        have ho := hblk.mine (B := w.heap.size) (by simp) hs1 (show k ≤ 1000 by omega)
        go_wp2
        go_ret2
        exact ⟨.inr ⟨HY.out, _, rfl, ho⟩, hbel⟩

theorem cEach (F : Nat) (op : Int → Int → Int) (eg : ∀ args w, (callFunc F args).run Tryd.prog w = .ok (.enter F args) w) (HF : Hid (∀ (x y : Int) (w : World), 0 ≤ x → x ≤ 18446744073709551615 → 0 ≤ y → y ≤ 18446744073709551615 → Calls Tryd.prog F #[.int .u64 x, .int .u64 y] w fun e w' => e = .returned (.int .u64 (nm (op x y))) ∧ w' = w)) (a : Option Addr) (n c : Nat) (xs : List Int) (q : Int) (w : World) (h : Rd w a n c xs) (q0 : 0 ≤ q) (q1 : q ≤ 18446744073709551615) :
    Calls Tryd.prog 105 #[.func (.func F) #[] #[], .slice a n c, .int .u64 q] w fun e w' => Gts (Wr1 n) ((List.range n).map fun i => nm (op (xs.getD i 0) q)) n w e w' := by
  obtain ⟨i0, hi, hz0, hz1, hz2⟩ := info_parts info34
  have hmx := h.max
  have hc := h.cap
  unfold maxLen at hmx
  have hRL := rdL_one w a n c 22
  have hbA : Below w.heap.size w (w.alloc (.cells #[.slice a n c] 22)) := (Below.refl _ _).alloc (Nat.le_refl _) _
  go_enter Tryd.func105, Tryd.ntmps105
  go_wp2_with fail
  generalize w.alloc (.cells #[.slice a n c] 22) = wA at *
  refine (cWires _ _ _ _ hRL (by omega) (by omega) (len_one (by omega))).mono ?_
  rintro e w1 ⟨r, rfl, hr, hb1⟩
  rw [wk_one] at hr
  have HR : Hid (_ ↔ _) := hr
  have hbw := hbA.trans (hb1.mono hbA.size)
  clear hr hb1 hbA hRL
  cases r with
  | false =>
    have HN : Hid (¬ Wr1 n) := fun e => by have := HR.out.2 e; cases this
    go_wp2
    go_ret2
    exact ⟨.inl ⟨HN.out, rfl⟩, hbw⟩
  | true =>
    have HY : Hid (Wr1 n) := HR.out.1 rfl
    have hn9 := HY.out.2
    have hs1 := hbw.size
    go_wp2_with (at_make; refine wpList_make_full _ rfl _ _ 22 rfl w1.heap.size 34 i0 (.int .u64 0) 1 Tryd.underlying22 hi hz0 hz1 .i64 .i64 _ _ n rfl rfl (by omega) (by omega) (by rw [hz2]; omega) (by unfold maxLen; omega) (Nat.le_refl _) ?_; intro w2 hown hgrow)
    have hB2 : Blk w2 w1.heap.size (fil (fun i => nm (op (xs.getD i 0) q)) n 0) := by rw [← fil_zero]; exact Blk.made hown
    have hb2 : Below w1.heap.size w1 w2 := (Below.refl _ _).grown hgrow (Nat.le_refl _) (by simp)
    have hb12 : Below w.heap.size w w2 := hbw.trans (hb2.mono hs1)
    clear hown hgrow hb2
    go_loopw [19] (fun i wr => ∃ k : Nat, k ≤ n ∧ i = .int .i64 k ∧ Blk wr w1.heap.size (fil (fun i => nm (op (xs.getD i 0) q)) n k) ∧ Below w.heap.size w wr) (fun i _ => n - (intOf i).toNat)
    case atStart => exact ⟨0, Nat.zero_le _, rfl, hB2, hb12⟩
    case round =>
      clear hB2 hb12
      obtain ⟨k, hk, rfl, hblk, hbel⟩ := hrel
      by_cases hlt : k < n
      · obtain ⟨b1, o1, x, rfl, hbb1, HX, hx0, hx1, hcx⟩ := (h.below hbel).one hlt
        have hcell := hblk.cell (i := k) (by rw [fil_len]; exact hlt)
        have hfz := hblk.frozen k
        have hlt3 := hblk.lt
        have hblk4 := hblk.set k (nm (op x q))
        rw [fil_set (by rw [← HX.out])] at hblk4
        have Hbl : Hid (Blk _ _ _) := hblk4
        have Hb5 : Hid (Below w.heap.size w (wr.setCell ⟨w1.heap.size, k, none⟩ (.int .u64 (nm (op x q))))) := hbel.setCell hs1 _
        have hk0 : (0 : Int) ≤ (k : Int) := by omega
        have hkn : (k : Int) < (n : Int) := by omega
        clear hbel hblk hblk4
        go_wp2_with fail
        refine (HF.out _ _ _ (by omega) (by omega) (by omega) (by omega)).mono ?_
        rintro e w' ⟨rfl, hw⟩
        have hw := hw.symm
        subst hw
        go_wp2
        go_roundw
        case rel => exact ⟨k + 1, by omega, by go_num, Hbl.out, Hb5.out⟩
        case measure => simp [intOf]; omega
      · have hkm : k = n := by omega
        subst hkm
        rw [fil_full] at hblk
        have ho := hblk.mine (B := w.heap.size) (by simp) hs1 (show k ≤ 1000 by omega)
        go_wp2
        go_ret2
        exact ⟨.inr ⟨HY.out, _, rfl, ho⟩, hbel⟩

theorem cBothAdd (a : Option Addr) (n c : Nat) (xs : List Int) (b : Option Addr) (m d : Nat) (ys : List Int) (w : World) (h : Rd w a n c xs) (g : Rd w b m d ys) :
    Calls Tryd.prog 54 #[.func (.func 45) #[] #[], .slice a n c, .slice b m d] w fun e w' => Gts (Wr2 n m) ((List.range n).map fun i => nm (xs.getD i 0 + ys.getD i 0)) n w e w' :=
  cBoth 45 (fun x y => x + y) Tryd.call45 (fun x y w a b c d => fAdd x y w a b c d) a n c xs b m d ys w h g
theorem cBothSub (a : Option Addr) (n c : Nat) (xs : List Int) (b : Option Addr) (m d : Nat) (ys : List Int) (w : World) (h : Rd w a n c xs) (g : Rd w b m d ys) :
    Calls Tryd.prog 54 #[.func (.func 59) #[] #[], .slice a n c, .slice b m d] w fun e w' => Gts (Wr2 n m) ((List.range n).map fun i => nm (xs.getD i 0 - ys.getD i 0)) n w e w' :=
  cBoth 59 (fun x y => x - y) Tryd.call59 (fun x y w a b c d => fSub x y w a b c d) a n c xs b m d ys w h g
theorem cBothMul (a : Option Addr) (n c : Nat) (xs : List Int) (b : Option Addr) (m d : Nat) (ys : List Int) (w : World) (h : Rd w a n c xs) (g : Rd w b m d ys) :
    Calls Tryd.prog 54 #[.func (.func 49) #[] #[], .slice a n c, .slice b m d] w fun e w' => Gts (Wr2 n m) ((List.range n).map fun i => nm (xs.getD i 0 * ys.getD i 0)) n w e w' :=
  cBoth 49 (fun x y => x * y) Tryd.call49 (fun x y w a b c d => fMul x y w a b c d) a n c xs b m d ys w h g
theorem cEachMul (a : Option Addr) (n c : Nat) (xs : List Int) (q : Int) (w : World) (h : Rd w a n c xs) (q0 : 0 ≤ q) (q1 : q ≤ 18446744073709551615) :
    Calls Tryd.prog 105 #[.func (.func 49) #[] #[], .slice a n c, .int .u64 q] w fun e w' => Gts (Wr1 n) ((List.range n).map fun i => nm (xs.getD i 0 * q)) n w e w' :=
  cEach 49 (fun x y => x * y) Tryd.call49 (fun x y w a b c d => fMul x y w a b c d) a n c xs q w h q0 q1
theorem cGAdd (a : Option Addr) (n c : Nat) (xs : List Int) (b : Option Addr) (m d : Nat) (ys : List Int) (w : World) (h : Rd w a n c xs) (g : Rd w b m d ys) :
    Calls Tryd.prog 17 #[.slice a n c, .slice b m d] w fun e w' => Gts (Wr2 n m) (mxl xs ys 1 1 0 n) n w e w' := by
  have HE : Hid ((List.range n).map (fun i => nm (xs.getD i 0 + ys.getD i 0)) = mxl xs ys 1 1 0 n) := mxl_ext fun i _ => by rw [Int.one_mul, Int.one_mul, Int.add_zero]
  go_enter Tryd.func17, Tryd.ntmps17
  go_wp2_with fail
  refine (cBothAdd _ _ _ _ _ _ _ _ _ h g).mono ?_
  rintro e w1 ⟨⟨hn, rfl⟩ | ⟨hn, v, rfl, ho⟩, hb⟩
  · have HN : Hid (¬ Wr2 n m) := hn
    clear hn
    go_wp2
    go_ret2
    exact ⟨.inl ⟨HN.out, rfl⟩, hb⟩
  · have HN : Hid (Wr2 n m) := hn
    clear hn
    rw [HE.out] at ho
    go_wp2
    go_ret2
    exact ⟨.inr ⟨HN.out, v, rfl, ho⟩, hb⟩

theorem cGSub (a : Option Addr) (n c : Nat) (xs : List Int) (b : Option Addr) (m d : Nat) (ys : List Int) (w : World) (h : Rd w a n c xs) (g : Rd w b m d ys) :
    Calls Tryd.prog 93 #[.slice a n c, .slice b m d] w fun e w' => Gts (Wr2 n m) (mxl xs ys 1 2147483646 0 n) n w e w' := by
  have HE : Hid ((List.range n).map (fun i => nm (xs.getD i 0 - ys.getD i 0)) = mxl xs ys 1 2147483646 0 n) := mxl_ext fun i _ => by
    unfold nm
    omega
  go_enter Tryd.func93, Tryd.ntmps93
  go_wp2_with fail
  refine (cBothSub _ _ _ _ _ _ _ _ _ h g).mono ?_
  rintro e w1 ⟨⟨hn, rfl⟩ | ⟨hn, v, rfl, ho⟩, hb⟩
  · have HN : Hid (¬ Wr2 n m) := hn
    clear hn
    go_wp2
    go_ret2
    exact ⟨.inl ⟨HN.out, rfl⟩, hb⟩
  · have HN : Hid (Wr2 n m) := hn
    clear hn
    rw [HE.out] at ho
    go_wp2
    go_ret2
    exact ⟨.inr ⟨HN.out, v, rfl, ho⟩, hb⟩

theorem cGScale (a : Option Addr) (n c : Nat) (xs : List Int) (k : Int) (w : World) (h : Rd w a n c xs) (hk0 : 0 ≤ k) (hk1 : k ≤ 18446744073709551615) :
    Calls Tryd.prog 83 #[.slice a n c, .int .u64 k] w fun e w' => Gts (Wr1 n) (mxl xs xs k 0 0 n) n w e w' := by
  have HE : Hid ((List.range n).map (fun i => nm (xs.getD i 0 * k)) = mxl xs xs k 0 0 n) := mxl_ext fun i _ => by rw [Int.zero_mul, Int.add_zero, Int.add_zero, Int.mul_comm]
  go_enter Tryd.func83, Tryd.ntmps83
  go_wp2_with fail
  refine (cEachMul _ _ _ _ _ _ h hk0 hk1).mono ?_
  rintro e w1 ⟨⟨hn, rfl⟩ | ⟨hn, v, rfl, ho⟩, hb⟩
  · have HN : Hid (¬ Wr1 n) := hn
    clear hn
    go_wp2
    go_ret2
    exact ⟨.inl ⟨HN.out, rfl⟩, hb⟩
  · have HN : Hid (Wr1 n) := hn
    clear hn
    rw [HE.out] at ho
    go_wp2
    go_ret2
    exact ⟨.inr ⟨HN.out, v, rfl, ho⟩, hb⟩
theorem infoVg : (Tryd.prog.info? 22).map (fun i => (i.zero, i.size, i.bytes)) = some (some (.slice none 0 0), 1, 24) := by kernel_rfl
theorem infoSg : (Tryd.prog.info? 34).map (·.size) = some 1 := by kernel_rfl

/-- A number of one row is written. -/
theorem LsV.put {w : World} {B g n c q i : Nat} {z : Int} {v : Value} {L : List Value} {rows : List (List Int)} (h : LsV w B v L rows) (hq : q < rows.length) (hu : L.getD q (.slice none 0 0) = .slice (some ⟨g, 0, none⟩) n c) (hn : (rows.getD q []).length = n) :
    LsV (w.setCell ⟨g, i, none⟩ (.int .u64 z)) B v L (rows.set q ((rows.getD q []).set i z)) := by
  have hg : w.grownBy (w.setCell ⟨g, i, none⟩ (.int .u64 z)) (some g) := grown_set _ _ _ _
  have hrq := h.row q hq
  rw [hu, hn] at hrq
  have hE : (34 : TypeId) ≠ 22 := by decide
  refine ⟨by rw [List.length_set]; exact h.own.kept hg (own_apart hrq h.own hE), by simp [h.len], fun j hj => ?_, fun j k hjk hk => by rw [List.length_set] at hk; exact h.inj j k hjk hk⟩
  rw [List.length_set] at hj
  rw [getD_setV _ _ _ _ _ hq]
  by_cases e : j = q
  · subst e
    rw [if_pos rfl, hu, List.length_set, hn, List.map_set]
    exact own_set hrq i _
  · rw [if_neg e]
    refine (h.row j hj).kept hg ?_
    have eb : (L.getD q (.slice none 0 0)).ownBlock = some g := by rw [hu]; rfl
    rcases Nat.lt_or_ge j q with e1 | e1
    · rcases h.inj j q e1 hq with e2 | e2
      · exact .inl e2
      · exact .inr (by rw [← eb]; exact e2)
    · rcases h.inj q j (by omega) hj with e2 | e2
      · rw [eb] at e2; cases e2
      · exact .inr (by rw [← eb]; exact fun e3 => e2 e3.symm)

/-- Rows that are made one by one. -/
def mkr (n i : Nat) : List (List Int) := (List.range n).map fun p => if p < i then List.replicate n 0 else []
theorem mkr_len (n i : Nat) : (mkr n i).length = n := by simp [mkr]
theorem mkr_zero (n : Nat) : List.replicate n [] = mkr n 0 := by
  apply List.ext_getElem?
  intro i
  by_cases hi : i < n
  · simp [mkr, hi]
  · simp [mkr, hi]
theorem mkr_set (n i : Nat) : (mkr n i).set i (List.replicate n 0) = mkr n (i + 1) := by
  apply List.ext_getElem?
  intro q
  rw [List.getElem?_set]
  by_cases hq : q < n
  · by_cases e : i = q
    · subst e; simp [mkr, hq]
    · have : (q < i + 1) = (q < i) := by apply propext; omega
      simp [mkr, hq, e, this]
  · by_cases e : i = q
    · subst e; simp [mkr, hq]
    · simp [mkr, hq, e]
/-- What party i deals. -/
def pdC (t : Nat) (ps ds : List Int) (i : Nat) : List Int := ps.getD i 0 :: (ds.drop (i * t)).take t
/-- What party p was dealt by the first i. -/
def gdr (t : Nat) (ps ds : List Int) (n i p : Nat) : List Int := fil (fun s => dlf (pdC t ps ds s) p) n i
theorem gdr_len (t : Nat) (ps ds : List Int) (n i p : Nat) : (gdr t ps ds n i p).length = n := fil_len _ _ _
def gdi (t : Nat) (ps ds : List Int) (n i : Nat) : List (List Int) := (List.range n).map fun p => gdr t ps ds n i p
theorem gdi_len (t : Nat) (ps ds : List Int) (n i : Nat) : (gdi t ps ds n i).length = n := by simp [gdi]
theorem mkr_full (t : Nat) (ps ds : List Int) (n : Nat) : mkr n n = gdi t ps ds n 0 := by
  unfold mkr gdi gdr
  refine List.map_congr_left fun p hp => ?_
  rw [if_pos (List.mem_range.1 hp), fil_zero]
def gdj (t : Nat) (ps ds : List Int) (n i j : Nat) : List (List Int) := (List.range n).map fun p => gdr t ps ds n (if p < j then i + 1 else i) p
theorem gdj_len (t : Nat) (ps ds : List Int) (n i j : Nat) : (gdj t ps ds n i j).length = n := by simp [gdj]
theorem gdj_zero (t : Nat) (ps ds : List Int) (n i : Nat) : gdj t ps ds n i 0 = gdi t ps ds n i := by simp [gdj, gdi]
theorem gdj_full (t : Nat) (ps ds : List Int) (n i : Nat) : gdj t ps ds n i n = gdi t ps ds n (i + 1) := by
  unfold gdj gdi
  refine List.map_congr_left fun p hp => ?_
  rw [if_pos (List.mem_range.1 hp)]
theorem gdj_getD (t : Nat) (ps ds : List Int) {n i j : Nat} (h : j < n) : (gdj t ps ds n i j).getD j [] = gdr t ps ds n i j := by simp [gdj, h]
theorem gdj_set (t : Nat) (ps ds : List Int) {n i j : Nat} : (gdj t ps ds n i j).set j ((gdr t ps ds n i j).set i (dlf (pdC t ps ds i) j)) = gdj t ps ds n i (j + 1) := by
  have e0 : (gdr t ps ds n i j).set i (dlf (pdC t ps ds i) j) = gdr t ps ds n (i + 1) j := fil_set rfl
  rw [e0]
  apply List.ext_getElem?
  intro q
  rw [List.getElem?_set]
  by_cases hq : q < n
  · by_cases e : j = q
    · subst e; simp [gdj, hq]
    · have : (q < j + 1) = (q < j) := by apply propext; omega
      simp [gdj, hq, e, this]
  · by_cases e : j = q
    · subst e; simp [gdj, hq]
    · simp [gdj, hq, e]

theorem cDealAll (t : Nat) (a : Option Addr) (n c : Nat) (ps : List Int) (e0 : Option Addr) (m f : Nat) (ds : List Int) (w : World) (h : Rd w a n c ps) (k : Rd w e0 m f ds) (ht : t ≤ 4) (hn1 : 2 * t + 1 ≤ n) (hn9 : n ≤ 9) (hm : m = n * t) :
    Calls Tryd.prog 55 #[.int .i64 t, .slice a n c, .slice e0 m f] w fun e w' => ∃ u L, e = .returned u ∧ LsV w' w.heap.size u L (gdi t ps ds n n) ∧ Below w.heap.size w w' := by
  obtain ⟨i0, hi, hz0, hz1, hz2⟩ := info_parts infoVg
  obtain ⟨j0, hj, hy0, hy1, hy2⟩ := info_parts info34
  have HM : Hid (m = n * t) := hm
  clear hm
  go_enter Tryd.func55, Tryd.ntmps55
  go_wp2_with (at_make; refine wpList_make_full _ rfl _ _ 36 rfl w.heap.size 22 i0 (.slice none 0 0) 1 Tryd.underlying36 hi hz0 hz1 .i64 .i64 _ _ n rfl rfl (by omega) (by omega) (by rw [hz2]; omega) (by unfold maxLen; omega) (Nat.le_refl _) ?_; intro w1 hown hgrow)
  have hb1 : Below w.heap.size w w1 := (Below.refl _ _).grown hgrow (Nat.le_refl _) (by simp)
  have hL1 := lsv_made hown
  rw [mkr_zero n] at hL1
  clear hown hgrow
  go_loopw [22] (fun q wr => ∃ (i : Nat) (L : List Value), i ≤ n ∧ q = .int .i64 i ∧ LsV wr w.heap.size (.slice (some ⟨w.heap.size, 0, none⟩) n n) L (mkr n i) ∧ Below w.heap.size w wr) (fun q _ => n - (intOf q).toNat)
  case atStart => exact ⟨0, _, Nat.zero_le _, rfl, hL1, hb1⟩
  case round =>
    clear hL1 hb1
    obtain ⟨i, L, hi', rfl, hL, hbel⟩ := hrel
    by_cases hlt : i < n
    · have hsw := hbel.size
      have hgl := mkr_len n i
      have HST : Hid (∀ w7, Below wr.heap.size wr w7 → (∃ x, w7.cell? ⟨w.heap.size, i, none⟩ = some x) ∧ w7.frozen? ⟨w.heap.size, i, none⟩ = false) := fun w7 hg => by
        obtain ⟨dg, fg, lg⟩ := (hL.below hg).cell hgl hlt
        exact ⟨⟨_, dg⟩, fg⟩
      have HUP : Hid (∀ w7, w7.ownsRow wr.heap.size 34 1 (.slice (some ⟨wr.heap.size, 0, none⟩) n n) n (madeCells (Value.int .u64 0).cells (n * 1)).toList → Below wr.heap.size wr w7 → LsV (w7.setCell ⟨w.heap.size, i, none⟩ (.slice (some ⟨wr.heap.size, 0, none⟩) n n)) w.heap.size (.slice (some ⟨w.heap.size, 0, none⟩) n n) (L.set i (.slice (some ⟨wr.heap.size, 0, none⟩) n n)) (mkr n (i + 1)) ∧ Below w.heap.size w (w7.setCell ⟨w.heap.size, i, none⟩ (.slice (some ⟨wr.heap.size, 0, none⟩) n n))) := fun w7 ho hb => by
        have hB := Blk.made ho
        have ho2 := hB.mine (B := w.heap.size) (by simp) hsw (show n ≤ 1000 by omega)
        have hu := hL.upd (q := i) (row := List.replicate n 0) (u' := .slice (some ⟨wr.heap.size, 0, none⟩) n n) hgl hlt (by rw [List.length_replicate]; exact ho2) (grown_below hb _) (.inr ⟨_, rfl, Nat.le_refl _⟩)
        rw [mkr_set] at hu
        exact ⟨hu, (hbel.trans (hb.mono hsw)).setCell (p := ⟨w.heap.size, i, none⟩) (Nat.le_refl _) _⟩
      clear hL hbel
      go_wp2_with (at_make; refine wpList_make_full _ rfl _ _ 22 rfl wr.heap.size 34 j0 (.int .u64 0) 1 Tryd.underlying22 hj hy0 hy1 .i64 .i64 _ _ n rfl rfl (by omega) (by omega) (by rw [hy2]; omega) (by unfold maxLen; omega) (Nat.le_refl _) ?_; intro w2 hown hgrow; have hb2 : Below wr.heap.size wr w2 := ((Below.refl _ _).grown hgrow (Nat.le_refl _) (by simp)); obtain ⟨⟨xx, dd⟩, ff⟩ := HST.out w2 hb2; have hl7 := World.block_lt_of_cell? w2 _ dd; have HE : Hid (_ ∧ _) := HUP.out w2 hown hb2; clear hown hgrow hb2)
      clear HST HUP
      go_roundw
      case rel => exact ⟨i + 1, _, by omega, by go_num, HE.out.1, HE.out.2⟩
      case measure => simp [intOf]; omega
    · have hin : i = n := by omega
      subst hin
      obtain ⟨wo, hwo⟩ : ∃ wo, wo = wr := ⟨_, rfl⟩
      subst hwo
      rw [mkr_full t ps ds] at hL
      go_wp2
      go_loopw [33] (fun q wr => ∃ (s : Nat) (L : List Value), s ≤ i ∧ q = .int .i64 s ∧ LsV wr w.heap.size (.slice (some ⟨w.heap.size, 0, none⟩) i i) L (gdi t ps ds i s) ∧ Below w.heap.size w wr) (fun q _ => i - (intOf q).toNat)
      case atStart => exact ⟨0, L, Nat.zero_le _, rfl, hL, hbel⟩
      case round =>
        clear hL hbel
        obtain ⟨s, L, hs, rfl, hL, hbel⟩ := hrel
        obtain ⟨w2, hw2⟩ : ∃ w2, w2 = wr := ⟨_, rfl⟩
        subst hw2
        by_cases hlt2 : s < i
        · have hsw := hbel.size
          obtain ⟨P, HP⟩ : ∃ P, Hid (s * t = P) := ⟨_, rfl⟩
          have hP : (s : Int) * (t : Int) = (P : Int) := by rw [← HP.out]; push_cast; rfl
          have hP2 : ((s : Int) + 1) * (t : Int) = (P : Int) + (t : Int) := by rw [Int.add_mul, Int.one_mul, hP]
          have hPm : P + t ≤ m := by
            have h1 : (s + 1) * t ≤ i * t := Nat.mul_le_mul_right t hlt2
            rw [Nat.add_mul, Nat.one_mul, HP.out, ← HM.out] at h1
            exact h1
          have hm36 : m ≤ 36 := by rw [HM.out]; exact Nat.le_trans (Nat.mul_le_mul hn9 ht) (by omega)
          have hkc := k.cap
          obtain ⟨b1, o1, x, rfl, hb1, HX, hx0, hx1, hcx⟩ := (h.below hbel).one hlt2
          have hrk := ((k.below hbel).sub (lo := P) (k := t) hPm)
          obtain ⟨X, HX2⟩ : ∃ X, Hid (subA e0 f P = X) := ⟨_, rfl⟩
          rw [HX2.out] at hrk
          have hsl : ∀ W, (Instr.sliceAt 22 (.slice e0 m f) (some (.int .i64 (P : Int))) (some (.int .i64 ((P : Int) + (t : Int)))) none).run Tryd.prog W = .ok (.slice X t (f - P)) W := fun W => by rw [← HX2.out]; exact run_sub Tryd.underlying22 infoSg e0 m f P t rfl rfl (by omega) W
          have HPC : Hid (x :: (ds.drop P).take t = pdC t ps ds s) := by unfold Hid pdC; rw [HX.out, HP.out]
          have HLT : Hid (∀ p, p < i → ∀ gg, (L.getD p (.slice none 0 0)).ownBlock = some gg → gg < w2.heap.size) := fun p hp gg hgg => ((hL.row p (by rw [gdi_len]; exact hp)).lt gg hgg).2
          go_wp2_with fail
          refine (cDealOK _ _ _ _ _ _ _ hrk (by omega) (by omega) ht (by omega) hn9).mono ?_
          rintro e w3 ⟨g3, rfl, hr3, hg3, hb3⟩
          rw [HPC.out] at hr3
          have hL3 := hL.below hb3
          have hbw3 := hbel.trans (hb3.mono hsw)
          rw [← gdj_zero] at hL3
          clear hrk hsl HPC hL hbel hb3 hP hP2 HX2 hcx
          go_wp2
          go_loopw [55] (fun q wr => ∃ (j : Nat), j ≤ i ∧ q = .int .i64 j ∧ LsV wr w.heap.size (.slice (some ⟨w.heap.size, 0, none⟩) i i) L (gdj t ps ds i s j) ∧ Rd wr (some ⟨g3, 0, none⟩) i i (dl (pdC t ps ds s) i) ∧ Below w.heap.size w wr) (fun q _ => i - (intOf q).toNat)
          case atStart => exact ⟨0, Nat.zero_le _, rfl, hL3, hr3, hbw3⟩
          case round =>
            clear hL3 hr3 hbw3
            obtain ⟨j, hj', rfl, hL, hr, hbel⟩ := hrel
            by_cases hji : j < i
            · have hgl := gdj_len t ps ds i s j
              obtain ⟨dg, fg, lg⟩ := hL.cell hgl hji
              have hrow := hL.row j (by rw [hgl]; exact hji)
              rw [gdj_getD t ps ds hji, gdr_len] at hrow
              obtain ⟨z, HZ⟩ : ∃ z, Hid (dlf (pdC t ps ds s) j = z) := ⟨_, rfl⟩
              obtain ⟨b3, o3, z', e3, hb3', HZ', hz0', hz1', hcz⟩ := hr.one hji
              simp only [Option.some.injEq, Addr.mk.injEq, and_true] at e3
              obtain ⟨rfl, rfl⟩ := e3
              rw [Nat.zero_add] at hcz
              obtain rfl : z = z' := by rw [← HZ.out, ← HZ'.out, dl_getD _ hji]
              obtain ⟨ua, uc, hu, huc⟩ := own_slice hrow
              rw [hu] at hrow dg
              obtain ⟨gu, yy, rfl, hgu0, hgu1, _, hcu⟩ := own_at hrow hlt2
              have hfu := own_frozen hrow s
              have hne : gu < w2.heap.size := HLT.out j hji gu (by rw [hu]; rfl)
              have HL' : Hid (LsV (wr.setCell ⟨gu, s, none⟩ (.int .u64 z)) w.heap.size (.slice (some ⟨w.heap.size, 0, none⟩) i i) L (gdj t ps ds i s (j + 1))) := by
                have h1 := hL.put (i := s) (z := z) (by rw [hgl]; exact hji) hu (by rw [gdj_getD t ps ds hji, gdr_len])
                rw [gdj_getD t ps ds hji, ← HZ.out, gdj_set] at h1
                rw [← HZ.out]
                exact h1
              have HR' : Hid (Rd (wr.setCell ⟨gu, s, none⟩ (.int .u64 z)) (some ⟨g3, 0, none⟩) i i (dl (pdC t ps ds s) i)) := hr.grown (grown_set _ _ _ _) (fun x hx => by
                obtain rfl := Option.some.inj hx
                simp only [ne_eq, Option.some.injEq]
                omega)
              have HB' : Hid (Below w.heap.size w (wr.setCell ⟨gu, s, none⟩ (.int .u64 z))) := hbel.setCell hgu0 _
              clear hL hr hbel hrow hu
              go_wp2
              go_roundw
              case rel => exact ⟨j + 1, by omega, by go_num, HL'.out, HR'.out, HB'.out⟩
              case measure => simp [intOf]; omega
            · have hji2 : j = i := by omega
              subst hji2
              rw [gdj_full] at hL
              go_wp2
              go_roundw
              case rel => exact ⟨s + 1, L, by omega, by go_num, hL, hbel⟩
              case measure => simp [intOf]; omega
        · have hsi : s = i := by omega
          subst hsi
          go_wp2
          go_ret
          exact ⟨_, L, rfl, hL, hbel⟩
theorem infoZg : (Tryd.prog.info? 3).map (fun i => (i.zero, i.size, i.bytes)) = some (some (.int .i64 0), 1, 8) := by kernel_rfl
theorem own_madeZ {w : World} {B n : Nat} {v : Value} (h : w.ownsRow B 3 1 v n (madeCells (Value.int .i64 0).cells (n * 1)).toList) : w.ownsRow B 3 1 v n (zns (List.replicate n 0)) := by
  have e : (Value.int .i64 0).cells = #[Value.int .i64 0] := rfl
  rw [e, Nat.mul_one, toList_madeCells_one] at h
  unfold zns
  rw [List.map_replicate]
  exact h
/-- One party's number, when the first p are put together. -/
def wgs (rows : List (List Int)) (n j p : Nat) : Int := nm (sm (fun i => wt (pty n) n i * (rows.getD j []).getD i 0) p)
theorem wgs_bd (rows : List (List Int)) (n j p : Nat) : 0 ≤ wgs rows n j p ∧ wgs rows n j p ≤ 2147483646 := nm_bd _
theorem wgs_zero (rows : List (List Int)) (n j : Nat) : wgs rows n j 0 = 0 := rfl
theorem wgs_succ (rows : List (List Int)) (n j p : Nat) : nm (wgs rows n j p + nm ((rows.getD j []).getD p 0 * wt (pty n) n p)) = wgs rows n j (p + 1) := by
  unfold wgs
  rw [sm, nm_addl, nm_addr, Int.mul_comm]
theorem fil_put0 (F : Nat → Int) {n j : Nat} : (fil F n j).set j 0 = fil F n j := by
  refine list_ext (by simp) fun t ht => ?_
  have htn : t < n := by simpa [fil] using ht
  rw [getD_set, fil_len]
  by_cases e : j = t
  · subst e; rw [if_pos ⟨rfl, htn⟩]; simp [fil, htn]
  · rw [if_neg (fun h => e h.1)]
theorem fil_ptyG (n : Nat) : fil (fun i : Nat => (i : Int) + 1) n n = pty n := by rw [fil_full]; rfl

theorem cWeigh (a : Option Addr) (n c : Nat) (rows : List (List Int)) (w : World) (h : RdR w a n c rows) (hn1 : 1 ≤ n) (hn9 : n ≤ 9) (hrl : ∀ j, j < n → (rows.getD j []).length = n) :
    Calls Tryd.prog 56 #[.slice a n c] w fun e w' => ∃ u, e = .returned u ∧ w'.ownsRow w.heap.size 34 1 u n (((List.range n).map fun j => wgs rows n j n).map (Value.int .u64)) ∧ Below w.heap.size w w' := by
  obtain ⟨i0, hi, hz0, hz1, hz2⟩ := info_parts infoZg
  obtain ⟨j0, hj, hy0, hy1, hy2⟩ := info_parts info34
  have HRL : Hid (∀ j, j < n → (rows.getD j []).length = n) := hrl
  clear hrl
  have hcap := h.cap
  go_enter Tryd.func56, Tryd.ntmps56
  go_wp2_with (at_make; refine wpList_make_full _ rfl _ _ 24 rfl w.heap.size 3 i0 (.int .i64 0) 1 Tryd.underlying24 hi hz0 hz1 .i64 .i64 _ _ n rfl rfl (by omega) (by omega) (by rw [hz2]; omega) (by unfold maxLen; omega) (Nat.le_refl _) ?_; intro w1 hown hgrow)
  have hb1 : Below w.heap.size w w1 := (Below.refl _ _).grown hgrow (Nat.le_refl _) (by simp)
  have ho1 := own_madeZ hown
  rw [fil_zero (fun i : Nat => (i : Int) + 1) n] at ho1
  clear hown hgrow
  go_loopw [17] (fun q wr => ∃ i : Nat, i ≤ n ∧ q = .int .i64 i ∧ wr.ownsRow w.heap.size 3 1 (.slice (some ⟨w.heap.size, 0, none⟩) n n) n (zns (fil (fun i : Nat => (i : Int) + 1) n i)) ∧ Below w.heap.size w wr) (fun q _ => n - (intOf q).toNat)
  case atStart => exact ⟨0, Nat.zero_le _, rfl, ho1, hb1⟩
  case round =>
    clear ho1 hb1
    obtain ⟨i, hi', rfl, hown, hbel⟩ := hrel
    by_cases hlt : i < n
    · obtain ⟨gu, yy, e1, hgu0, hgu1, _, hcu⟩ := own_at hown hlt
      simp only [Option.some.injEq, Addr.mk.injEq, and_true] at e1
      subst e1
      have hfu := own_frozen hown i
      have ho2 := own_set hown i (.int .i64 ((i : Int) + 1))
      rw [zns_set, fil_set rfl] at ho2
      have HO : Hid (World.ownsRow _ _ _ _ _ _ _) := ho2
      have HB : Hid (Below w.heap.size w (wr.setCell ⟨w.heap.size, i, none⟩ (.int .i64 ((i : Int) + 1)))) := hbel.setCell (Nat.le_refl _) _
      clear hown hbel ho2
      go_wp2
      go_roundw
      case rel => exact ⟨i + 1, by omega, by go_num, HO.out, HB.out⟩
      case measure => simp [intOf]; omega
    · have hin : i = n := by omega
      subst hin
      rw [fil_ptyG] at hown
      obtain ⟨wo, hwo⟩ : ∃ wo, wo = wr := ⟨_, rfl⟩
      subst hwo
      obtain ⟨aw, cw, ev, hri⟩ := RdI.own hown (fun x hx => by
        obtain ⟨q, hq, rfl⟩ := List.mem_map.1 hx
        have := List.mem_range.1 hq
        omega)
      simp only [Value.slice.injEq] at ev
      obtain ⟨rfl, _, rfl⟩ := ev
      clear hown
      go_wp2_with fail
      refine (cWeights1 _ _ _ _ _ hri (by omega)).mono ?_
      rintro e w2 ⟨⟨hno, _⟩ | ⟨_, g2, rfl, hr2, hg2⟩, hb2⟩
      · exact absurd (pty_dis hn9) hno
      have hbw2 := hbel.trans (hb2.mono hbel.size)
      have hs2 := hbw2.size
      clear hbel hb2 hri
      go_wp2_with (at_make; refine wpList_make_full _ rfl _ _ 22 rfl w2.heap.size 34 j0 (.int .u64 0) 1 Tryd.underlying22 hj hy0 hy1 .i64 .i64 _ _ i rfl rfl (by omega) (by omega) (by rw [hy2]; omega) (by unfold maxLen; omega) (Nat.le_refl _) ?_; intro w3 hown hgrow)
      have hb3 : Below w2.heap.size w2 w3 := (Below.refl _ _).grown hgrow (Nat.le_refl _) (by simp)
      have hB3 : Blk w3 w2.heap.size (fil (fun j => wgs rows i j i) i 0) := by rw [← fil_zero]; exact Blk.made hown
      clear hown hgrow
      go_loopw [36] (fun q wr => ∃ j : Nat, j ≤ i ∧ q = .int .i64 j ∧ Blk wr w2.heap.size (fil (fun j => wgs rows i j i) i j) ∧ Below w2.heap.size w2 wr) (fun q _ => i - (intOf q).toNat)
      case atStart => exact ⟨0, Nat.zero_le _, rfl, hB3, hb3⟩
      case round =>
        clear hB3 hb3
        obtain ⟨j, hj', rfl, hblk, hbel⟩ := hrel
        obtain ⟨w4, hw4⟩ : ∃ w4, w4 = wr := ⟨_, rfl⟩
        subst hw4
        by_cases hji : j < i
        · obtain ⟨bR, oR, ai, ni, ci, row, rfl, hbR, HRow, hcR0, hrR⟩ := h.one hji
          obtain rfl : ni = i := by rw [← hrR.len, ← HRow.out]; exact HRL.out j hji
          have hcR : w4.cell? ⟨bR, oR + j, none⟩ = some (.slice ai ni ci) := by rw [(hbw2.trans (hbel.mono hs2)).cell (p := ⟨bR, oR + j, none⟩) hbR]; exact hcR0
          have hbR4 : bR < w4.heap.size := Nat.lt_of_lt_of_le hbR (hbw2.trans (hbel.mono hs2)).size
          rw [← fil_put0, ← wgs_zero rows ni j] at hblk
          clear hcR0
          go_wp2
          go_loopw [43] (fun q wr => ∃ p : Nat, p ≤ ni ∧ q = .int .i64 p ∧ Blk wr w2.heap.size ((fil (fun j => wgs rows ni j ni) ni j).set j (wgs rows ni j p)) ∧ Below w2.heap.size w2 wr) (fun q _ => ni - (intOf q).toNat)
          case atStart => exact ⟨0, Nat.zero_le _, rfl, hblk, hbel⟩
          case round =>
            clear hblk hbel hcR
            obtain ⟨p, hp', rfl, hblk, hbel⟩ := hrel
            by_cases hpi : p < ni
            · obtain ⟨b1, o1, x, rfl, hb1, HX, hx0, hx1, hcx⟩ := (hrR.below (hbw2.trans (hbel.mono hs2))).one hpi
              obtain ⟨b2, o2, y, e2, hb2, HY, hy0, hy1, hcy⟩ := (hr2.below hbel).one hpi
              simp only [Option.some.injEq, Addr.mk.injEq, and_true] at e2
              obtain ⟨rfl, rfl⟩ := e2
              rw [Nat.zero_add] at hcy
              obtain ⟨S, HS⟩ : ∃ S, Hid (wgs rows ni j p = S) := ⟨_, rfl⟩
              have hSb := wgs_bd rows ni j p
              rw [HS.out] at hblk hSb
              have hcell := hblk.cell (i := j) (by rw [List.length_set, fil_len]; exact hji)
              rw [getD_set, fil_len, if_pos ⟨rfl, hji⟩] at hcell
              have hfz := hblk.frozen j
              have hlt3 := hblk.lt
              have hS0 := hSb.1
              have hS1 := hSb.2
              have hm := nm_bd (x * y)
              have HSn : Hid (nm (S + nm (x * y)) = wgs rows ni j (p + 1)) := by
                unfold Hid
                rw [← wgs_succ, HS.out, HRow.out, HX.out, ← HY.out]
                simp [hpi]
              have hblk4 := hblk.set j (nm (S + nm (x * y)))
              rw [List.set_set, HSn.out] at hblk4
              have Hbl : Hid (Blk (wr.setCell ⟨w2.heap.size, j, none⟩ (.int .u64 (nm (S + nm (x * y))))) w2.heap.size ((fil (fun j => wgs rows ni j ni) ni j).set j (wgs rows ni j (p + 1)))) := by unfold Hid; rw [HSn.out]; exact hblk4
              have Hb5 : Hid (Below w2.heap.size w2 (wr.setCell ⟨w2.heap.size, j, none⟩ (.int .u64 (nm (S + nm (x * y)))))) := hbel.setCell (Nat.le_refl _) _
              have hk0 : (0 : Int) ≤ (j : Int) := by omega
              have hkn : (j : Int) < (ni : Int) := by omega
              have hp0 : (0 : Int) ≤ (p : Int) := by omega
              have hpn : (p : Int) < (ni : Int) := by omega
              clear hbel hblk hblk4 hSb
              go_wp2
              go_region_with (first | (go_at_call 49; refine (fMul _ _ _ (by omega) (by omega) (by omega) (by omega)).mono ?_; rintro e w' ⟨rfl, rfl⟩) | (go_at_call 45; refine (fAdd _ _ _ (by omega) (by omega) (by omega) (by omega)).mono ?_; rintro e w' ⟨rfl, rfl⟩))
              all_goals
                go_wp2
                go_roundw
                case rel => exact ⟨p + 1, by omega, by go_num, Hbl.out, Hb5.out.drew⟩
                case measure => simp [intOf]; omega
            · have hpi2 : p = ni := by omega
              subst hpi2
              rw [fil_set rfl] at hblk
              go_wp2
              go_roundw
              case rel => exact ⟨j + 1, by omega, by go_num, hblk, hbel⟩
              case measure => simp [intOf]; omega
        · have hji2 : j = i := by omega
          subst hji2
          rw [fil_full] at hblk
          have ho := hblk.mine (B := w.heap.size) (by simp) hs2 (show j ≤ 1000 by omega)
          go_wp2
          go_ret
          exact ⟨_, rfl, ho, hbw2.trans (hbel.mono hs2)⟩
end
end Go.Proofs.YtljlioglpaogdagDoor
