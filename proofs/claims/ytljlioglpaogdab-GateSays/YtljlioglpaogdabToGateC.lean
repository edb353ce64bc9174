/- Reckoning with shares: plain facts. · croftref.Mixed. · What the calls of package gate answer. · Package gate: wires, reckonBoth, reckonEach, and Add, Sub, Scale, Plus by them. · gate.Add, Sub, Scale, Plus. -/
import Derived.Test.YtljlioglpaogdabDealC
import Derived.Test.YtljlioglpaogdabToRows2
import Derived.Test.YtljlioglpaogdabToAtsC
import Derived.Test.YtljlioglpaogdabToPolyM3
import Derived.Test.YtljlioglpaogdabProg
import Derived.Laws.CopyOwn
import Derived.Test.YtljlioglpaogdabStepC
import Derived.Test.YtljlioglpaogdabLsV
import Derived.Test.YtljlioglpaogdabToWireC
import Derived.Deep.RegionWith
import Derived.BigQuiet
namespace Go.Proofs.Ytljlioglpaogdab
set_option linter.unusedVariables false
set_option maxRecDepth 100000
set_option maxHeartbeats 8000000
section
open Crm
/-- Each party's numbers mixed: a times the one, b times the other, and c. -/
def mxl (x y : List Int) (a b c : Int) (n : Nat) : List Int := (List.range n).map fun i => nm (a * x.getD i 0 + b * y.getD i 0 + c)
theorem mxl_snoc (x y : List Int) (a b c : Int) (n : Nat) : mxl x y a b c n ++ [nm (a * x.getD n 0 + b * y.getD n 0 + c)] = mxl x y a b c (n + 1) := by simp [mxl, List.range_succ]
theorem mxl_bd (x y : List Int) (a b c : Int) (n : Nat) : ∀ z ∈ mxl x y a b c n, 0 ≤ z ∧ z ≤ 2147483646 := by
  intro z hz
  obtain ⟨i, _, rfl⟩ := List.mem_map.1 hz
  exact nm_bd _
theorem mxl_one {a b c p q : Int} : nm (nm (nm (a * p) + nm (b * q)) + c) = nm (a * p + b * q + c) := by
  rw [nm_addl]
  refine nm_add_congr ?_ rfl
  exact nm_add_congr (nm_nm _) (nm_nm _)
/-- The same by other ways. -/
theorem mxl_ext {x y : List Int} {a b c : Int} {n : Nat} {F : Nat → Int} (h : ∀ i, i < n → F i = nm (a * x.getD i 0 + b * y.getD i 0 + c)) : (List.range n).map F = mxl x y a b c n :=
  List.map_congr_left fun i hi => h i (List.mem_range.1 hi)
end
section
open Crm Go.RowKit
theorem rMixed (a : Option Addr) (n c : Nat) (xs : List Int) (b : Option Addr) (d : Nat) (ys : List Int) (p q r : Int) (w : World) (h : Rd w a n c xs) (g : Rd w b n d ys) (hn : n ≤ 1000) (p0 : 0 ≤ p) (p1 : p ≤ 18446744073709551615) (q0 : 0 ≤ q) (q1 : q ≤ 18446744073709551615) (r0 : 0 ≤ r) (r1 : r ≤ 18446744073709551615) :
    Calls Try.prog 27 #[.slice a n c, .slice b n d, .int .u64 p, .int .u64 q, .int .u64 r] w fun e w' => ∃ v, e = .returned v ∧ w'.ownsRow w.heap.size 28 1 v n ((mxl xs ys p q r n).map (Value.int .u64)) ∧ Below w.heap.size w w' := by
  go_enter Try.func27, Try.ntmps27
  go_wp2
  go_loopw [11, 12] (fun v i wr => ∃ k : Nat, k ≤ n ∧ i = .int .i64 k ∧ wr.ownsRow w.heap.size 28 1 v k ((mxl xs ys p q r k).map (Value.int .u64)) ∧ Below w.heap.size w wr) (fun _ i _ => n - (intOf i).toNat)
  case atStart => exact ⟨0, Nat.zero_le _, rfl, World.ownsRow_nil _ _ _ _, Below.refl _ _⟩
  case round =>
    obtain ⟨k, hk, rfl, hown, hbel⟩ := hrel
    have hs1 := hbel.size
    by_cases hlt : k < n
    · obtain ⟨b1, o1, x, rfl, hb1, HX, hx0, hx1, hcx⟩ := (h.below hbel).one hlt
      obtain ⟨b2, o2, y, rfl, hb2, HY, hy0, hy1, hcy⟩ := (g.below hbel).one hlt
      have m1 := nm_bd (p * x)
      have m2 := nm_bd (q * y)
      have m3 := nm_bd (nm (p * x) + nm (q * y))
      have HV : Hid (mxl xs ys p q r k ++ [nm (nm (nm (p * x) + nm (q * y)) + r)] = mxl xs ys p q r (k + 1)) := by
        unfold Hid
        rw [mxl_one, ← HX.out, ← HY.out]
        exact mxl_snoc xs ys p q r k
      have hk0 : (0 : Int) ≤ (k : Int) := by omega
      have hkn : (k : Int) < (n : Int) := by omega
      have hown2 : wr.drew.ownsRow w.heap.size 28 1 u11 k ((mxl xs ys p q r k).map (Value.int .u64)) := hown
      have hbel2 := hbel.drew
      go_wp2
      go_region_law (first | (refine step_app1 Try.underlying23 info28 wr.drew rfl _ _ rfl w.heap.size _ _ _ rfl hown2 (nm (nm (nm (p * x) + nm (q * y)) + r)) rfl rfl (by omega) (by exact hs1) ?_; intro v' w3 hown3 hbel3; rw [HV.out] at hown3; have hbel4 := hbel2.trans hbel3) | (go_simp; go_at_call 47; refine (rMul _ _ _ (by omega) (by omega) (by omega) (by omega)).mono ?_; rintro en w' ⟨rfl, rfl⟩) | (go_simp; go_at_call 46; refine (rAdd _ _ _ (by omega) (by omega) (by omega) (by omega)).mono ?_; rintro en w' ⟨rfl, rfl⟩))
      all_goals
        clear hown hbel hown2 hbel2 hbel3
        go_wp2
        go_roundw
        case rel => exact ⟨k + 1, by omega, by go_num, hown3, hbel4⟩
        case measure => simp [intOf]; omega
    · have hkn : k = n := by omega
      subst hkn
      go_wp2
      go_ret
      exact ⟨_, rfl, hown, hbel⟩
/-- Wires that may be. -/
def Wr1 (n : Nat) : Prop := 1 ≤ n ∧ n ≤ 9
def Wr2 (n m : Nat) : Prop := (1 ≤ n ∧ n ≤ 9) ∧ m = n
theorem wk_one (n : Nat) : Wk [n] 1 ↔ Wr1 n := by
  unfold Wk Wr1
  constructor
  · intro h; exact h.1
  · intro h
    refine ⟨h, fun i hi => ?_⟩
    obtain rfl : i = 0 := by omega
    rfl
theorem wk_two (n m : Nat) : Wk [n, m] 2 ↔ Wr2 n m := by
  unfold Wk Wr2
  constructor
  · intro h; exact ⟨h.1, h.2 1 (by omega)⟩
  · intro h
    refine ⟨h.1, fun i hi => ?_⟩
    match i, hi with
    | 0, _ => rfl
    | 1, _ => exact h.2
theorem len_two {n m : Nat} (h0 : n ≤ 9223372036854775807) (h1 : m ≤ 9223372036854775807) : ∀ i, [n, m].getD i 0 ≤ 9223372036854775807
  | 0 => h0
  | 1 => h1
  | i + 2 => by simp
theorem len_one {n : Nat} (h0 : n ≤ 9223372036854775807) : ∀ i, [n].getD i 0 ≤ 9223372036854775807
  | 0 => h0
  | i + 1 => by simp
/-- What Add, Sub, Scale, Plus answer. -/
def Gts (ok : Prop) (L : List Int) (n : Nat) (w : World) (e : Ending) (w' : World) : Prop :=
  ((¬ ok ∧ e = .returned (.tuple #[.slice none 0 0, .int .i64 5])) ∨ (ok ∧ ∃ v, e = .returned (.tuple #[v, .int .i64 0]) ∧ w'.ownsRow w.heap.size 28 1 v n (L.map (Value.int .u64)))) ∧ Below w.heap.size w w'
/-- What is wrong with what is multiplied. -/
def Gme (t : Int) (n m q : Nat) (r : Int) : Prop :=
  ((t < 0 ∨ 4 < t) ∧ r = 1) ∨ ((0 ≤ t ∧ t ≤ 4) ∧ ((¬ Wr2 n m ∧ r = 5) ∨ (Wr2 n m ∧ (((n : Int) < 2 * t + 1 ∧ r = 4) ∨ (2 * t + 1 ≤ (n : Int) ∧ (((q : Int) ≠ (n : Int) * t ∧ r = 1) ∨ ((q : Int) = (n : Int) * t ∧ r = 0)))))))
theorem Gme.one {t : Int} {n m q : Nat} {r s : Int} (h : Gme t n m q r) (k : Gme t n m q s) : r = s := by
  rcases h with ⟨h1, rfl⟩ | ⟨h1, h2⟩ <;> rcases k with ⟨k1, rfl⟩ | ⟨k1, k2⟩
  · rfl
  · exfalso; omega
  · exfalso; omega
  · rcases h2 with ⟨h2, rfl⟩ | ⟨h2, h3⟩ <;> rcases k2 with ⟨k2, rfl⟩ | ⟨k2, k3⟩
    · rfl
    · exact absurd k2 h2
    · exact absurd h2 k2
    · rcases h3 with ⟨h3, rfl⟩ | ⟨h3, ⟨h4, rfl⟩ | ⟨h4, rfl⟩⟩ <;> rcases k3 with ⟨k3, rfl⟩ | ⟨k3, ⟨k4, rfl⟩ | ⟨k4, rfl⟩⟩
      all_goals first
        | rfl
        | (exfalso; omega)
        | exact absurd k4 h4
        | exact absurd h4 k4
theorem Gme.ok {t : Int} {n m q : Nat} (h : Gme t n m q 0) : ∃ k : Nat, t = (k : Int) ∧ k ≤ 4 ∧ 1 ≤ n ∧ n ≤ 9 ∧ m = n ∧ 2 * k + 1 ≤ n ∧ q = n * k := by
  rcases h with ⟨_, h⟩ | ⟨h1, ⟨_, h⟩ | ⟨h2, ⟨_, h⟩ | ⟨h3, ⟨_, h⟩ | ⟨h4, _⟩⟩⟩⟩
  · omega
  · omega
  · omega
  · omega
  · obtain ⟨k, rfl⟩ : ∃ k : Nat, t = k := ⟨t.toNat, by omega⟩
    refine ⟨k, rfl, by omega, h2.1.1, h2.1.2, h2.2, by omega, ?_⟩
    have : ((q : Nat) : Int) = ((n * k : Nat) : Int) := by rw [h4]; push_cast; rfl
    omega
/-- A row of the call's own, all of it. -/
theorem Blk.mine {w : World} {g n B : Nat} {L : List Int} (h : Blk w g L) (hl : L.length = n) (hB : B ≤ g) (hn : n ≤ 1000) : w.ownsRow B 28 1 (.slice (some ⟨g, 0, none⟩) n n) n (L.map (Value.int .u64)) :=
  ⟨by simp [hl], .inr ⟨g, n, _, rfl, hB, h, Nat.le_refl _, by unfold maxLen; omega, by simp [hl], by rw [List.take_of_length_le (by simp [hl])]⟩⟩

theorem cWires (g k : Nat) (ns : List Nat) (w : World) (h : RdL w g k ns) (hk0 : 0 < k) (hk : k ≤ 100) (hm : ∀ i, ns.getD i 0 ≤ 9223372036854775807) :
    Calls Try.prog 81 #[.slice (some ⟨g, 0, none⟩) k k] w fun e w' => Tells (Wk ns k) w e w' := by
  have hgl := h.lt
  obtain ⟨a0, c0, hc0⟩ := h.cell 0 hk0
  obtain ⟨N, HN⟩ : ∃ N, Hid (ns.getD 0 0 = N) := ⟨_, rfl⟩
  have hN := hm 0
  rw [HN.out] at hc0 hN
  have HM : Hid (∀ i, ns.getD i 0 ≤ 9223372036854775807) := hm
  clear hm
  go_enter Try.func81, Try.ntmps81
  go_wp2
  go_loop [7] (fun q => ∃ i : Nat, i ≤ k ∧ q = .int .i64 i ∧ Hid (∀ j, j < i → (1 ≤ ns.getD j 0 ∧ ns.getD j 0 ≤ 9) ∧ ns.getD j 0 = N)) (fun q => k - (intOf q).toNat)
  case atStart => exact ⟨0, Nat.zero_le _, rfl, fun j hj => by omega⟩
  case round =>
    obtain ⟨i, hi, rfl, HB⟩ := hrel
    by_cases hlt : i < k
    · obtain ⟨ai, ci, hci⟩ := h.cell i hlt
      obtain ⟨M, HMi⟩ : ∃ M, Hid (ns.getD i 0 = M) := ⟨_, rfl⟩
      have hM := HM.out i
      rw [HMi.out] at hci hM
      by_cases h1 : M < 1
      · have HX : Hid (¬ Wk ns k) := fun e => by have h2 := e.2 i hlt; have h3 := e.1; rw [← h2, HMi.out] at h3; omega
        clear HB
        go_wp2
        go_ret
        exact .no HX.out (Below.refl _ _)
      · by_cases h9 : 9 < M
        · have HX : Hid (¬ Wk ns k) := fun e => by have h2 := e.2 i hlt; have h3 := e.1; rw [← h2, HMi.out] at h3; omega
          clear HB
          go_wp2
          go_ret
          exact .no HX.out (Below.refl _ _)
        · by_cases hMN : M = N
          · have hmb : ((M : Int) != (N : Int)) = false := by rw [bne_eq_false_iff_eq]; omega
            have HB2 : Hid (∀ j, j < i + 1 → (1 ≤ ns.getD j 0 ∧ ns.getD j 0 ≤ 9) ∧ ns.getD j 0 = N) := fun j hj => by
              by_cases e : j = i
              · rw [e, HMi.out]; exact ⟨by omega, hMN⟩
              · exact HB.out j (by omega)
            clear hMN HB
            go_wp2
            go_round
            case rel => exact ⟨i + 1, by omega, by go_num, HB2⟩
            case measure => simp [intOf]; omega
          · have hmb : ((M : Int) != (N : Int)) = true := by rw [bne_iff_ne]; omega
            have HX : Hid (¬ Wk ns k) := fun e => hMN (by have h2 := e.2 i hlt; rw [HMi.out, HN.out] at h2; exact h2)
            clear hMN HB
            go_wp2
            go_ret
            exact .no HX.out (Below.refl _ _)
    · have hik : i = k := by omega
      subst hik
      have HE : Hid (Wk ns i) := by
        unfold Hid Wk
        rw [HN.out]
        have h0 := HB.out 0 hk0
        rw [HN.out] at h0
        exact ⟨h0.1, fun j hj => (HB.out j hj).2⟩
      clear HB
      go_wp2
      go_ret
      exact .yes HE.out (Below.refl _ _)

theorem cBoth (F : Nat) (op : Int → Int → Int) (eg : ∀ args w, (callFunc F args).run Try.prog w = .ok (.enter F args) w) (HF : Hid (∀ (x y : Int) (w : World), 0 ≤ x → x ≤ 18446744073709551615 → 0 ≤ y → y ≤ 18446744073709551615 → Calls Try.prog F #[.int .u64 x, .int .u64 y] w fun e w' => e = .returned (.int .u64 (nm (op x y))) ∧ w' = w)) (a : Option Addr) (n c : Nat) (xs : List Int) (b : Option Addr) (m d : Nat) (ys : List Int) (w : World) (h : Rd w a n c xs) (g : Rd w b m d ys) :
    Calls Try.prog 57 #[.func (.func F) #[] #[], .slice a n c, .slice b m d] w fun e w' => Gts (Wr2 n m) ((List.range n).map fun i => nm (op (xs.getD i 0) (ys.getD i 0))) n w e w' := by
  obtain ⟨i0, hi, hz0, hz1, hz2⟩ := info_parts info28
  have hmx := h.max
  have hgx := g.max
  have hc := h.cap
  have gc := g.cap
  unfold maxLen at hmx hgx
  have hRL := rdL_two w a n c b m d 23
  have hbA : Below w.heap.size w (w.alloc (.cells #[.slice a n c, .slice b m d] 23)) := (Below.refl _ _).alloc (Nat.le_refl _) _
  go_enter Try.func57, Try.ntmps57
  go_wp2_with fail
  generalize w.alloc (.cells #[.slice a n c, .slice b m d] 23) = wA at *
  refine (cWires _ _ _ _ hRL (by omega) (by omega) (len_two (by omega) (by omega))).mono ?_
  rintro e w1 ⟨r, rfl, hr, hb1⟩
  rw [wk_two] at hr
  have HR : Hid (_ ↔ _) := hr
  have hbw := hbA.trans (hb1.mono hbA.size)
  clear hr hb1 hbA hRL
  cases r with
  | false =>
    have HN : Hid (¬ Wr2 n m) := fun e => by have := HR.out.2 e; cases this
    go_wp2
    go_ret2
    exact ⟨.inl ⟨HN.out, rfl⟩, hbw⟩
  | true =>
    have HY : Hid (Wr2 n m) := HR.out.1 rfl
    obtain rfl : m = n := HY.out.2
    have hn9 := HY.out.1.2
    have hs1 := hbw.size
    go_wp2_with (at_make; refine wpList_make_full _ rfl _ _ 23 rfl w1.heap.size 28 i0 (.int .u64 0) 1 Try.underlying23 hi hz0 hz1 .i64 .i64 _ _ m rfl rfl (by omega) (by omega) (by rw [hz2]; omega) (by unfold maxLen; omega) (Nat.le_refl _) ?_; intro w2 hown hgrow)
    have hB2 : Blk w2 w1.heap.size (fil (fun i => nm (op (xs.getD i 0) (ys.getD i 0))) m 0) := by rw [← fil_zero]; exact Blk.made hown
    have hb2 : Below w1.heap.size w1 w2 := (Below.refl _ _).grown hgrow (Nat.le_refl _) (by simp)
    have hb12 : Below w.heap.size w w2 := hbw.trans (hb2.mono hs1)
    clear hown hgrow hb2
    go_loopw [20] (fun i wr => ∃ k : Nat, k ≤ m ∧ i = .int .i64 k ∧ Blk wr w1.heap.size (fil (fun i => nm (op (xs.getD i 0) (ys.getD i 0))) m k) ∧ Below w.heap.size w wr) (fun i _ => m - (intOf i).toNat)
    case atStart => exact ⟨0, Nat.zero_le _, rfl, hB2, hb12⟩
    case round =>
      clear hB2 hb12
      obtain ⟨k, hk, rfl, hblk, hbel⟩ := hrel
      by_cases hlt : k < m
      · obtain ⟨b1, o1, x, rfl, hbb1, HX, hx0, hx1, hcx⟩ := (h.below hbel).one hlt
        obtain ⟨b2, o2, y, rfl, hbb2, HY2, hy0, hy1, hcy⟩ := (g.below hbel).one hlt
        have hcell := hblk.cell (i := k) (by rw [fil_len]; exact hlt)
        have hfz := hblk.frozen k
        have hlt3 := hblk.lt
        have hblk4 := hblk.set k (nm (op x y))
        rw [fil_set (by rw [← HX.out, ← HY2.out])] at hblk4
        have Hbl : Hid (Blk _ _ _) := hblk4
        have Hb5 : Hid (Below w.heap.size w (wr.setCell ⟨w1.heap.size, k, none⟩ (.int .u64 (nm (op x y))))) := hbel.setCell hs1 _
        have hk0 : (0 : Int) ≤ (k : Int) := by omega
        have hkn : (k : Int) < (m : Int) := by omega
        clear hbel hblk hblk4
        go_wp2
        go_region_with (refine (HF.out _ _ _ (by omega) (by omega) (by omega) (by omega)).mono ?_; rintro e w' ⟨rfl, rfl⟩)
        all_goals
          go_wp2
          go_roundw
          case rel => exact ⟨k + 1, by omega, by go_num, Hbl.out, Hb5.out.drew⟩
          case measure => simp [intOf]; omega
      · have hkm : k = m := by omega
        subst hkm
        rw [fil_full] at hblk
        have ho := hblk.mine (B := w.heap.size) (by simp) hs1 (show k ≤ 1000 by omega)
        go_wp2
        go_ret2
        exact ⟨.inr ⟨HY.out, _, rfl, ho⟩, hbel⟩

theorem cEach (F : Nat) (op : Int → Int → Int) (eg : ∀ args w, (callFunc F args).run Try.prog w = .ok (.enter F args) w) (HF : Hid (∀ (x y : Int) (w : World), 0 ≤ x → x ≤ 18446744073709551615 → 0 ≤ y → y ≤ 18446744073709551615 → Calls Try.prog F #[.int .u64 x, .int .u64 y] w fun e w' => e = .returned (.int .u64 (nm (op x y))) ∧ w' = w)) (a : Option Addr) (n c : Nat) (xs : List Int) (q : Int) (w : World) (h : Rd w a n c xs) (q0 : 0 ≤ q) (q1 : q ≤ 18446744073709551615) :
    Calls Try.prog 60 #[.func (.func F) #[] #[], .slice a n c, .int .u64 q] w fun e w' => Gts (Wr1 n) ((List.range n).map fun i => nm (op (xs.getD i 0) q)) n w e w' := by
  obtain ⟨i0, hi, hz0, hz1, hz2⟩ := info_parts info28
  have hmx := h.max
  have hc := h.cap
  unfold maxLen at hmx
  have hRL := rdL_one w a n c 23
  have hbA : Below w.heap.size w (w.alloc (.cells #[.slice a n c] 23)) := (Below.refl _ _).alloc (Nat.le_refl _) _
  go_enter Try.func60, Try.ntmps60
  go_wp2_with fail
  generalize w.alloc (.cells #[.slice a n c] 23) = wA at *
  refine (cWires _ _ _ _ hRL (by omega) (by omega) (len_one (by omega))).mono ?_
  rintro e w1 ⟨r, rfl, hr, hb1⟩
  rw [wk_one] at hr
  have HR : Hid (_ ↔ _) := hr
  have hbw := hbA.trans (hb1.mono hbA.size)
  clear hr hb1 hbA hRL
  cases r with
  | false =>
    have HN : Hid (¬ Wr1 n) := fun e => by have := HR.out.2 e; cases this
    go_wp2
    go_ret2
    exact ⟨.inl ⟨HN.out, rfl⟩, hbw⟩
  | true =>
    have HY : Hid (Wr1 n) := HR.out.1 rfl
    have hn9 := HY.out.2
    have hs1 := hbw.size
    go_wp2_with (at_make; refine wpList_make_full _ rfl _ _ 23 rfl w1.heap.size 28 i0 (.int .u64 0) 1 Try.underlying23 hi hz0 hz1 .i64 .i64 _ _ n rfl rfl (by omega) (by omega) (by rw [hz2]; omega) (by unfold maxLen; omega) (Nat.le_refl _) ?_; intro w2 hown hgrow)
    have hB2 : Blk w2 w1.heap.size (fil (fun i => nm (op (xs.getD i 0) q)) n 0) := by rw [← fil_zero]; exact Blk.made hown
    have hb2 : Below w1.heap.size w1 w2 := (Below.refl _ _).grown hgrow (Nat.le_refl _) (by simp)
    have hb12 : Below w.heap.size w w2 := hbw.trans (hb2.mono hs1)
    clear hown hgrow hb2
    go_loopw [19] (fun i wr => ∃ k : Nat, k ≤ n ∧ i = .int .i64 k ∧ Blk wr w1.heap.size (fil (fun i => nm (op (xs.getD i 0) q)) n k) ∧ Below w.heap.size w wr) (fun i _ => n - (intOf i).toNat)
    case atStart => exact ⟨0, Nat.zero_le _, rfl, hB2, hb12⟩
    case round =>
      clear hB2 hb12
      obtain ⟨k, hk, rfl, hblk, hbel⟩ := hrel
      by_cases hlt : k < n
      · obtain ⟨b1, o1, x, rfl, hbb1, HX, hx0, hx1, hcx⟩ := (h.below hbel).one hlt
        have hcell := hblk.cell (i := k) (by rw [fil_len]; exact hlt)
        have hfz := hblk.frozen k
        have hlt3 := hblk.lt
        have hblk4 := hblk.set k (nm (op x q))
        rw [fil_set (by rw [← HX.out])] at hblk4
        have Hbl : Hid (Blk _ _ _) := hblk4
        have Hb5 : Hid (Below w.heap.size w (wr.setCell ⟨w1.heap.size, k, none⟩ (.int .u64 (nm (op x q))))) := hbel.setCell hs1 _
        have hk0 : (0 : Int) ≤ (k : Int) := by omega
        have hkn : (k : Int) < (n : Int) := by omega
        clear hbel hblk hblk4
        go_wp2_with fail
        refine (HF.out _ _ _ (by omega) (by omega) (by omega) (by omega)).mono ?_
        rintro e w' ⟨rfl, hw⟩
        have hw := hw.symm
        subst hw
        go_wp2
        go_roundw
        case rel => exact ⟨k + 1, by omega, by go_num, Hbl.out, Hb5.out⟩
        case measure => simp [intOf]; omega
      · have hkm : k = n := by omega
        subst hkm
        rw [fil_full] at hblk
        have ho := hblk.mine (B := w.heap.size) (by simp) hs1 (show k ≤ 1000 by omega)
        go_wp2
        go_ret2
        exact ⟨.inr ⟨HY.out, _, rfl, ho⟩, hbel⟩

theorem cBothAdd (a : Option Addr) (n c : Nat) (xs : List Int) (b : Option Addr) (m d : Nat) (ys : List Int) (w : World) (h : Rd w a n c xs) (g : Rd w b m d ys) :
    Calls Try.prog 57 #[.func (.func 58) #[] #[], .slice a n c, .slice b m d] w fun e w' => Gts (Wr2 n m) ((List.range n).map fun i => nm (xs.getD i 0 + ys.getD i 0)) n w e w' :=
  cBoth 58 (fun x y => x + y) Try.call58 (fun x y w a b c d => fAdd x y w a b c d) a n c xs b m d ys w h g
theorem cBothSub (a : Option Addr) (n c : Nat) (xs : List Int) (b : Option Addr) (m d : Nat) (ys : List Int) (w : World) (h : Rd w a n c xs) (g : Rd w b m d ys) :
    Calls Try.prog 57 #[.func (.func 59) #[] #[], .slice a n c, .slice b m d] w fun e w' => Gts (Wr2 n m) ((List.range n).map fun i => nm (xs.getD i 0 - ys.getD i 0)) n w e w' :=
  cBoth 59 (fun x y => x - y) Try.call59 (fun x y w a b c d => fSub x y w a b c d) a n c xs b m d ys w h g
theorem cEachMul (a : Option Addr) (n c : Nat) (xs : List Int) (q : Int) (w : World) (h : Rd w a n c xs) (q0 : 0 ≤ q) (q1 : q ≤ 18446744073709551615) :
    Calls Try.prog 60 #[.func (.func 61) #[] #[], .slice a n c, .int .u64 q] w fun e w' => Gts (Wr1 n) ((List.range n).map fun i => nm (xs.getD i 0 * q)) n w e w' :=
  cEach 61 (fun x y => x * y) Try.call61 (fun x y w a b c d => fMul x y w a b c d) a n c xs q w h q0 q1
theorem cEachAdd (a : Option Addr) (n c : Nat) (xs : List Int) (q : Int) (w : World) (h : Rd w a n c xs) (q0 : 0 ≤ q) (q1 : q ≤ 18446744073709551615) :
    Calls Try.prog 60 #[.func (.func 58) #[] #[], .slice a n c, .int .u64 q] w fun e w' => Gts (Wr1 n) ((List.range n).map fun i => nm (xs.getD i 0 + q)) n w e w' :=
  cEach 58 (fun x y => x + y) Try.call58 (fun x y w a b c d => fAdd x y w a b c d) a n c xs q w h q0 q1
theorem cGAdd (a : Option Addr) (n c : Nat) (xs : List Int) (b : Option Addr) (m d : Nat) (ys : List Int) (w : World) (h : Rd w a n c xs) (g : Rd w b m d ys) :
    Calls Try.prog 28 #[.slice a n c, .slice b m d] w fun e w' => Gts (Wr2 n m) (mxl xs ys 1 1 0 n) n w e w' := by
  have HE : Hid ((List.range n).map (fun i => nm (xs.getD i 0 + ys.getD i 0)) = mxl xs ys 1 1 0 n) := mxl_ext fun i _ => by rw [Int.one_mul, Int.one_mul, Int.add_zero]
  go_enter Try.func28, Try.ntmps28
  go_wp2_with fail
  refine (cBothAdd _ _ _ _ _ _ _ _ _ h g).mono ?_
  rintro e w1 ⟨⟨hn, rfl⟩ | ⟨hn, v, rfl, ho⟩, hb⟩
  · have HN : Hid (¬ Wr2 n m) := hn
    clear hn
    go_wp2
    go_ret2
    exact ⟨.inl ⟨HN.out, rfl⟩, hb⟩
  · have HN : Hid (Wr2 n m) := hn
    clear hn
    rw [HE.out] at ho
    go_wp2
    go_ret2
    exact ⟨.inr ⟨HN.out, v, rfl, ho⟩, hb⟩

theorem cGSub (a : Option Addr) (n c : Nat) (xs : List Int) (b : Option Addr) (m d : Nat) (ys : List Int) (w : World) (h : Rd w a n c xs) (g : Rd w b m d ys) :
    Calls Try.prog 29 #[.slice a n c, .slice b m d] w fun e w' => Gts (Wr2 n m) (mxl xs ys 1 2147483646 0 n) n w e w' := by
  have HE : Hid ((List.range n).map (fun i => nm (xs.getD i 0 - ys.getD i 0)) = mxl xs ys 1 2147483646 0 n) := mxl_ext fun i _ => by
    unfold nm
    omega
  go_enter Try.func29, Try.ntmps29
  go_wp2_with fail
  refine (cBothSub _ _ _ _ _ _ _ _ _ h g).mono ?_
  rintro e w1 ⟨⟨hn, rfl⟩ | ⟨hn, v, rfl, ho⟩, hb⟩
  · have HN : Hid (¬ Wr2 n m) := hn
    clear hn
    go_wp2
    go_ret2
    exact ⟨.inl ⟨HN.out, rfl⟩, hb⟩
  · have HN : Hid (Wr2 n m) := hn
    clear hn
    rw [HE.out] at ho
    go_wp2
    go_ret2
    exact ⟨.inr ⟨HN.out, v, rfl, ho⟩, hb⟩

theorem cGScale (a : Option Addr) (n c : Nat) (xs : List Int) (k : Int) (w : World) (h : Rd w a n c xs) (hk0 : 0 ≤ k) (hk1 : k ≤ 18446744073709551615) :
    Calls Try.prog 30 #[.slice a n c, .int .u64 k] w fun e w' => Gts (Wr1 n) (mxl xs xs k 0 0 n) n w e w' := by
  have HE : Hid ((List.range n).map (fun i => nm (xs.getD i 0 * k)) = mxl xs xs k 0 0 n) := mxl_ext fun i _ => by rw [Int.zero_mul, Int.add_zero, Int.add_zero, Int.mul_comm]
  go_enter Try.func30, Try.ntmps30
  go_wp2_with fail
  refine (cEachMul _ _ _ _ _ _ h hk0 hk1).mono ?_
  rintro e w1 ⟨⟨hn, rfl⟩ | ⟨hn, v, rfl, ho⟩, hb⟩
  · have HN : Hid (¬ Wr1 n) := hn
    clear hn
    go_wp2
    go_ret2
    exact ⟨.inl ⟨HN.out, rfl⟩, hb⟩
  · have HN : Hid (Wr1 n) := hn
    clear hn
    rw [HE.out] at ho
    go_wp2
    go_ret2
    exact ⟨.inr ⟨HN.out, v, rfl, ho⟩, hb⟩

theorem cGPlus (a : Option Addr) (n c : Nat) (xs : List Int) (k : Int) (w : World) (h : Rd w a n c xs) (hk0 : 0 ≤ k) (hk1 : k ≤ 18446744073709551615) :
    Calls Try.prog 31 #[.slice a n c, .int .u64 k] w fun e w' => Gts (Wr1 n) (mxl xs xs 1 0 k n) n w e w' := by
  have HE : Hid ((List.range n).map (fun i => nm (xs.getD i 0 + k)) = mxl xs xs 1 0 k n) := mxl_ext fun i _ => by rw [Int.zero_mul, Int.add_zero, Int.one_mul]
  go_enter Try.func31, Try.ntmps31
  go_wp2_with fail
  refine (cEachAdd _ _ _ _ _ _ h hk0 hk1).mono ?_
  rintro e w1 ⟨⟨hn, rfl⟩ | ⟨hn, v, rfl, ho⟩, hb⟩
  · have HN : Hid (¬ Wr1 n) := hn
    clear hn
    go_wp2
    go_ret2
    exact ⟨.inl ⟨HN.out, rfl⟩, hb⟩
  · have HN : Hid (Wr1 n) := hn
    clear hn
    rw [HE.out] at ho
    go_wp2
    go_ret2
    exact ⟨.inr ⟨HN.out, v, rfl, ho⟩, hb⟩
end
end Go.Proofs.Ytljlioglpaogdab
