/- Slices of ints that are read; shares that a call gathers. · croftref.In, croftref.Ats. · What each call of package field answers: the rest of the sum, the difference, the product, the power, the inverse; no world is changed. · croftref.Norm, Add, Mul: the same rests, by other roads. · croftref.Neg, Pow, Inv. · croftref.Sum. · poly.trim, poly.normal. · croftref.digits. -/
import Derived.Test.YtljlioglpaogdabDoorToShamirM
import Derived.Test.YtljlioglpaogdabDoorToPolyM3
import Derived.Test.YtljlioglpaogdabDoorProg
import Derived.WalkKit
import Derived.WalkSpells
import Derived.WalkLawsBesides
import Derived.Laws.Strings
namespace Go.Proofs.YtljlioglpaogdabDoor
set_option linter.unusedVariables false
set_option maxRecDepth 100000
set_option maxHeartbeats 8000000
section
open Crm Go.RowKit
/-- A slice of ints that is read. -/
structure RdI (w : World) (a : Option Addr) (n c : Nat) (xs : List Int) : Prop where
  len : xs.length = n
  cap : n ≤ c
  max : c ≤ maxLen
  bd : ∀ x ∈ xs, -9223372036854775808 ≤ x ∧ x ≤ 9223372036854775807
  nil : a = none → c = 0
  cell : ∀ x, a = some x → ∀ i, i < n → w.cell? (x.add i) = some (.int .i64 (xs.getD i 0))
theorem RdI.one {w : World} {a : Option Addr} {n c : Nat} {xs : List Int} (h : RdI w a n c xs) {k : Nat} (hk : k < n) :
    ∃ b o x, a = some ⟨b, o, none⟩ ∧ b < w.heap.size ∧ Hid (xs.getD k 0 = x) ∧ -9223372036854775808 ≤ x ∧ x ≤ 9223372036854775807 ∧ w.cell? ⟨b, o + k, none⟩ = some (.int .i64 x) := by
  cases ha : a with
  | none => have := h.nil ha; have := h.cap; omega
  | some x =>
    have h0 := h.cell x ha k hk
    have hs : x.spot = none := by
      have := spot_none (h.cell x ha 0 (by omega))
      unfold Addr.add at this
      split at this <;> simp_all
    obtain ⟨b, o, s⟩ := x
    simp only at hs
    subst hs
    rw [Addr.add_lit] at h0
    have hb := h.bd (xs.getD k 0) (getD_mem (by rw [h.len]; exact hk))
    exact ⟨b, o, _, rfl, World.block_lt_of_cell? w _ h0, rfl, hb.1, hb.2, h0⟩
theorem RdI.below {w w' : World} {a : Option Addr} {n c : Nat} {xs : List Int} (h : RdI w a n c xs) (hb : Below w.heap.size w w') : RdI w' a n c xs := by
  refine ⟨h.len, h.cap, h.max, h.bd, h.nil, fun x hx i hi => ?_⟩
  have := h.cell x hx i hi
  rw [hb.cell (World.block_lt_of_cell? w _ this)]
  exact this
theorem RdI.drewN {w : World} {a : Option Addr} {n c : Nat} {xs : List Int} (h : RdI w a n c xs) (q : Nat) : RdI (w.drewN q) a n c xs := ⟨h.len, h.cap, h.max, h.bd, h.nil, h.cell⟩
theorem RdI.take {w : World} {a : Option Addr} {n c : Nat} {xs : List Int} (h : RdI w a n c xs) {k : Nat} (hk : k ≤ n) : RdI w a k c (xs.take k) := by
  refine ⟨by have := h.len; simp; omega, by have := h.cap; omega, h.max, fun x hx => h.bd x (List.mem_of_mem_take hx), h.nil, fun x hx i hi => ?_⟩
  rw [h.cell x hx i (by omega)]
  congr 2
  simp [hi]

/-- The cells of shares. -/
def shc (l : List (Int × Int)) : List Value := l.flatMap fun p => [.int .i64 p.1, .int .u64 p.2]
theorem shc_get : ∀ (l : List (Int × Int)) (i : Nat), i < l.length → (shc l)[i * 2]? = some (.int .i64 (l.getD i (0, 0)).1) ∧ (shc l)[i * 2 + 1]? = some (.int .u64 (l.getD i (0, 0)).2)
  | [], i, h => by simp at h
  | p :: l, 0, _ => ⟨rfl, rfl⟩
  | p :: l, i + 1, h => by
    have := shc_get l i (by simpa using h)
    have e1 : (i + 1) * 2 = i * 2 + 1 + 1 := by omega
    rw [e1]
    exact this

theorem RdS.own {w : World} {base n : Nat} {E : TypeId} {v : Value} {l : List (Int × Int)} (h : w.ownsRow base E 2 v n (shc l)) (hl : l.length = n)
    (hb : ∀ i, i < n → (-9223372036854775808 ≤ (l.getD i (0, 0)).1 ∧ (l.getD i (0, 0)).1 ≤ 9223372036854775807) ∧ 0 ≤ (l.getD i (0, 0)).2 ∧ (l.getD i (0, 0)).2 ≤ 18446744073709551615) : ∃ a c, v = .slice a n c ∧ RdS w a n c l := by
  rcases h.2 with ⟨rfl, rfl⟩ | ⟨g, cap, cur, rfl, hb', hg, h1, h2, hs, ht⟩
  · exact ⟨none, 0, rfl, ⟨hl, Nat.le_refl _, Nat.zero_le _, hb, fun _ => rfl, by simp⟩⟩
  · refine ⟨_, _, rfl, ⟨hl, h1, h2, hb, by simp, fun x hx i hi => ?_⟩⟩
    obtain rfl := Option.some.inj hx
    have := shc_get l i (by omega)
    exact ⟨h.cells (g := g) rfl _ _ this.1, h.cells (g := g) rfl _ _ this.2⟩

theorem infoZ : (Tryd.prog.info? 3).map (fun i => (i.zero, i.size, i.bytes)) = some (some (.int .i64 0), 1, 8) := by kernel_rfl
/-- What append has gathered reads as the ints that it gathered. -/
theorem RdI.own {w : World} {base n : Nat} {E : TypeId} {v : Value} {L : List Int} (h : w.ownsRow base E 1 v n (zns L)) (hb : ∀ x ∈ L, -9223372036854775808 ≤ x ∧ x ≤ 9223372036854775807) : ∃ a c, v = .slice a n c ∧ RdI w a n c L := by
  have hl : L.length = n := by have := h.1; rw [zns_len] at this; omega
  rcases h.2 with ⟨rfl, rfl⟩ | ⟨g, cap, cur, rfl, hb', hg, h1, h2, hs, ht⟩
  · exact ⟨none, 0, rfl, ⟨hl, Nat.le_refl _, Nat.zero_le _, hb, fun _ => rfl, by simp⟩⟩
  · refine ⟨_, _, rfl, ⟨hl, h1, h2, hb, by simp, fun x hx i hi => ?_⟩⟩
    obtain rfl := Option.some.inj hx
    rw [Addr.add_lit, Nat.zero_add]
    exact zns_at h hi
theorem rInY (n lo hi : Int) (w : World) (h1 : lo ≤ n) (h2 : n ≤ hi) :
    Calls Tryd.prog 14 #[.int .i64 n, .int .i64 lo, .int .i64 hi] w fun e w' => e = .returned (.bool true) ∧ w' = w := by
  go_enter Tryd.func14, Tryd.ntmps14
  go_wp2
  go_ret
  exact ⟨rfl, rfl⟩
theorem rInN (n lo hi : Int) (w : World) (h : n < lo ∨ hi < n) :
    Calls Tryd.prog 14 #[.int .i64 n, .int .i64 lo, .int .i64 hi] w fun e w' => e = .returned (.bool false) ∧ w' = w := by
  by_cases h1 : n < lo
  · clear h
    go_enter Tryd.func14, Tryd.ntmps14
    go_wp2
    go_ret
    exact ⟨rfl, rfl⟩
  · have h2 : hi < n := by omega
    have hd : decide (n ≤ hi) = false := by simp; omega
    clear h
    go_enter Tryd.func14, Tryd.ntmps14
    go_wp2
    go_ret
    exact ⟨rfl, rfl⟩
theorem fNorm (a : Int) (w : World) (h0 : 0 ≤ a) (h1 : a ≤ 18446744073709551615) :
    Calls Tryd.prog 28 #[.int .u64 a] w fun e w' => e = .returned (.int .u64 (nm a)) ∧ w' = w := by
  go_enter Tryd.func28, Tryd.ntmps28
  go_wp2
  go_ret
  exact ⟨rfl, rfl⟩

theorem fAdd (a b : Int) (w : World) (h0 : 0 ≤ a) (h1 : a ≤ 18446744073709551615) (g0 : 0 ≤ b) (g1 : b ≤ 18446744073709551615) :
    Calls Tryd.prog 29 #[.int .u64 a, .int .u64 b] w fun e w' => e = .returned (.int .u64 (nm (a + b))) ∧ w' = w := by
  have ha := nm_bd a
  have hb := nm_bd b
  have HN : Hid (nm (a + b) = nm (nm a + nm b)) := by rw [nm_addl, nm_addr]; exact rfl
  go_enter Tryd.func29, Tryd.ntmps29
  go_wp2_with (go_at_call 28; refine (fNorm _ _ (by omega) (by omega)).mono ?_; rintro e w' ⟨rfl, rfl⟩)
  go_ret
  rw [HN.out]
  exact ⟨rfl, rfl⟩

theorem fSub (a b : Int) (w : World) (h0 : 0 ≤ a) (h1 : a ≤ 18446744073709551615) (g0 : 0 ≤ b) (g1 : b ≤ 18446744073709551615) :
    Calls Tryd.prog 30 #[.int .u64 a, .int .u64 b] w fun e w' => e = .returned (.int .u64 (nm (a - b))) ∧ w' = w := by
  have ha := nm_bd a
  have hb := nm_bd b
  have HN : Hid (nm (a - b) = nm (nm a + 2147483647 - nm b)) := by unfold nm Hid; omega
  go_enter Tryd.func30, Tryd.ntmps30
  go_wp2_with (go_at_call 28; refine (fNorm _ _ (by omega) (by omega)).mono ?_; rintro e w' ⟨rfl, rfl⟩)
  go_ret
  rw [HN.out]
  exact ⟨rfl, rfl⟩

theorem mul_bd {x y : Int} (hx : 0 ≤ x ∧ x ≤ 2147483646) (hy : 0 ≤ y ∧ y ≤ 2147483646) : 0 ≤ x * y ∧ x * y ≤ 4611686009837453316 :=
  ⟨Int.mul_nonneg hx.1 hy.1, by have := Int.mul_le_mul hx.2 hy.2 hy.1 (by omega : (0 : Int) ≤ 2147483646); omega⟩

theorem fMul (a b : Int) (w : World) (h0 : 0 ≤ a) (h1 : a ≤ 18446744073709551615) (g0 : 0 ≤ b) (g1 : b ≤ 18446744073709551615) :
    Calls Tryd.prog 31 #[.int .u64 a, .int .u64 b] w fun e w' => e = .returned (.int .u64 (nm (a * b))) ∧ w' = w := by
  have ha := nm_bd a
  have hb := nm_bd b
  have hm := mul_bd ha hb
  have HN : Hid (nm (a * b) = nm (nm a * nm b)) := by rw [nm_mull, nm_mulr]; exact rfl
  go_enter Tryd.func31, Tryd.ntmps31
  go_wp2_with (go_at_call 28; refine (fNorm _ _ (by omega) (by omega)).mono ?_; rintro e w' ⟨rfl, rfl⟩)
  go_ret
  rw [HN.out]
  exact ⟨rfl, rfl⟩
theorem rNorm (a : Int) (w : World) (h0 : 0 ≤ a) (h1 : a ≤ 18446744073709551615) :
    Calls Tryd.prog 16 #[.int .u64 a] w fun e w' => e = .returned (.int .u64 (nm a)) ∧ w' = w := by
  have HN : Hid (nm a = a - a / 2147483647 * 2147483647) := by unfold nm Hid; omega
  go_enter Tryd.func16, Tryd.ntmps16
  go_wp2
  go_ret
  rw [HN.out]
  exact ⟨rfl, rfl⟩

theorem rAdd (a b : Int) (w : World) (h0 : 0 ≤ a) (h1 : a ≤ 18446744073709551615) (g0 : 0 ≤ b) (g1 : b ≤ 18446744073709551615) :
    Calls Tryd.prog 26 #[.int .u64 a, .int .u64 b] w fun e w' => e = .returned (.int .u64 (nm (a + b))) ∧ w' = w := by
  have ha := nm_bd a
  have hb := nm_bd b
  have HN : Hid (nm (a + b) = nm (nm a + nm b)) := by rw [nm_addl, nm_addr]; exact rfl
  go_enter Tryd.func26, Tryd.ntmps26
  go_wp2_with (go_at_call 16; refine (rNorm _ _ (by omega) (by omega)).mono ?_; rintro e w' ⟨rfl, rfl⟩)
  go_ret
  rw [HN.out]
  exact ⟨rfl, rfl⟩

theorem rMul (a b : Int) (w : World) (h0 : 0 ≤ a) (h1 : a ≤ 18446744073709551615) (g0 : 0 ≤ b) (g1 : b ≤ 18446744073709551615) :
    Calls Tryd.prog 25 #[.int .u64 a, .int .u64 b] w fun e w' => e = .returned (.int .u64 (nm (a * b))) ∧ w' = w := by
  have ha := nm_bd a
  have hb := nm_bd b
  have HE : Hid (nm (a * b) = nm (nm a * nm b)) := by rw [nm_mull, nm_mulr]; exact rfl
  go_enter Tryd.func25, Tryd.ntmps25
  go_wp2_with (go_at_call 16; refine (rNorm _ _ (by omega) (by omega)).mono ?_; rintro e w' ⟨rfl, rfl⟩)
  go_loop [5, 6] (fun out i => ∃ (k : Nat) (o : Int), k ≤ 31 ∧ i = .int .i64 ((k : Int) - 1) ∧ out = .int .u64 o ∧ o = nm (nm a * (nm b / 2 ^ k))) (fun _ i => (intOf i + 1).toNat)
  case atStart =>
    refine ⟨31, 0, by omega, rfl, rfl, ?_⟩
    have : nm b / 2 ^ 31 = 0 := by omega
    rw [this, Int.mul_zero]; rfl
  case round =>
    obtain ⟨k, o, hk, rfl, rfl, hr⟩ := hrel
    have ho : 0 ≤ o ∧ o ≤ 2147483646 := by rw [hr]; exact nm_bd _
    have HR : Hid (o = nm (nm a * (nm b / 2 ^ k))) := hr
    clear hr
    have hoo := nm_bd (o + o)
    have hooa := nm_bd (nm (o + o) + nm a)
    by_cases hlt : 0 < k
    · have hq : 0 ≤ nm b / 2 ^ (k - 1) := Int.ediv_nonneg hb.1 (Int.le_of_lt (Int.pow_pos (by omega)))
      have HR2 : Hid (o = nm (nm a * (nm b / 2 ^ ((k - 1) + 1)))) := by rw [Nat.sub_add_cancel hlt]; exact HR
      by_cases hbit : (nm b / 2 ^ (k - 1)) % 2 = 1
      · have hb1 : ((nm b / 2 ^ (k - 1)) % 2 == 1) = true := by rw [beq_iff_eq]; exact hbit
        have HB : Hid (nm (nm (o + o) + nm a) = nm (nm a * (nm b / 2 ^ (k - 1)))) := mul_bit1 _ _ _ hbit o HR2.out
        clear hbit
        go_wp2_with (go_at_call 16; refine (rNorm _ _ (by omega) (by omega)).mono ?_; rintro e w' ⟨rfl, rfl⟩)
        go_round
        case rel => exact ⟨k - 1, _, by omega, by go_num, rfl, HB.out⟩
        case measure => simp [intOf]; omega
      · have hb1 : ((nm b / 2 ^ (k - 1)) % 2 == 1) = false := by rw [beq_eq_false_iff_ne]; exact hbit
        have HB : Hid (nm (o + o) = nm (nm a * (nm b / 2 ^ (k - 1)))) := mul_bit0 _ _ _ (by omega) o HR2.out
        clear hbit
        go_wp2_with (go_at_call 16; refine (rNorm _ _ (by omega) (by omega)).mono ?_; rintro e w' ⟨rfl, rfl⟩)
        go_round
        case rel => exact ⟨k - 1, _, by omega, by go_num, rfl, HB.out⟩
        case measure => simp [intOf]; omega
    · have HM : Hid (k = 0) := by unfold Hid; omega
      go_wp2
      go_ret
      have h := HR.out
      rw [HM.out, Int.pow_zero, Int.ediv_one, ← HE.out] at h
      rw [h]
      exact ⟨rfl, rfl⟩
theorem rNeg (a : Int) (w : World) (h0 : 0 ≤ a) (h1 : a ≤ 18446744073709551615) :
    Calls Tryd.prog 27 #[.int .u64 a] w fun e w' => e = .returned (.int .u64 (nm (-a))) ∧ w' = w := by
  have ha := nm_bd a
  have HN : Hid (nm (-a) = nm (2147483647 - nm a)) := by unfold nm Hid; omega
  go_enter Tryd.func27, Tryd.ntmps27
  go_wp2_with (go_at_call 16; refine (rNorm _ _ (by omega) (by omega)).mono ?_; rintro e w' ⟨rfl, rfl⟩)
  go_ret
  rw [HN.out]
  exact ⟨rfl, rfl⟩
theorem own_base {w : World} {B B' n : Nat} {E : TypeId} {v : Value} {xs : List Value} (h : w.ownsRow B E 1 v n xs) (hB : B' ≤ B) : w.ownsRow B' E 1 v n xs := by
  rcases h.2 with h' | ⟨g, cap, cur, e1, e2, e3⟩
  · exact ⟨h.1, Or.inl h'⟩
  · exact ⟨h.1, Or.inr ⟨g, cap, cur, e1, by omega, e3⟩⟩
/-- The first k numbers of L are those of nz xs, the rest 0. -/
theorem info40 : (Tryd.prog.info? 40).map (fun i => (i.zero, i.size, i.bytes)) = some (some (.int .u64 0), 1, 8) := by kernel_rfl
/-- Byte i of a text. -/
def bt (s : ByteArray) (i : Nat) : Int := ((s.get! i).toNat : Int)
/-- The number of the first k digits. -/
def dgn (s : ByteArray) : Nat → Int
  | 0 => 0
  | k + 1 => dgn s k * 10 + bt s k - 48
/-- The first k bytes are digits. -/
def dgs (s : ByteArray) (k : Nat) : Prop := ∀ i, i < k → 48 ≤ bt s i ∧ bt s i ≤ 57
theorem dgn_bd {s : ByteArray} : ∀ {k : Nat}, dgs s k → 0 ≤ dgn s k ∧ dgn s k < 10 ^ k
  | 0, _ => by simp [dgn]
  | k + 1, h => by
    have h1 := dgn_bd (k := k) fun i hi => h i (by omega)
    have h2 := h k (by omega)
    rw [dgn, Int.pow_succ]
    omega
theorem ten_le {k : Nat} (h : k ≤ 10) : (10 : Int) ^ k ≤ 10000000000 := by
  have : k = 0 ∨ k = 1 ∨ k = 2 ∨ k = 3 ∨ k = 4 ∨ k = 5 ∨ k = 6 ∨ k = 7 ∨ k = 8 ∨ k = 9 ∨ k = 10 := by omega
  rcases this with rfl | rfl | rfl | rfl | rfl | rfl | rfl | rfl | rfl | rfl | rfl <;> decide
/-- A number: one to ten digits, without noughts ahead. -/
def okd (s : ByteArray) : Prop := (1 ≤ s.size ∧ s.size ≤ 10) ∧ dgs s s.size ∧ ¬ (1 < s.size ∧ bt s 0 = 48)
def Dgt (s : ByteArray) (r : Int) : Prop := (okd s ∧ r = dgn s s.size) ∨ (¬ okd s ∧ r = -1)
theorem Dgt.one {s : ByteArray} {r q : Int} (h : Dgt s r) (k : Dgt s q) : r = q := by
  rcases h with ⟨h1, rfl⟩ | ⟨h1, rfl⟩ <;> rcases k with ⟨k1, rfl⟩ | ⟨k1, rfl⟩
  · rfl
  · exact absurd h1 k1
  · exact absurd k1 h1
  · rfl
theorem Dgt.bd {s : ByteArray} {r : Int} (h : Dgt s r) : -1 ≤ r ∧ r ≤ 9999999999 := by
  rcases h with ⟨h1, rfl⟩ | ⟨h1, rfl⟩
  · have := dgn_bd h1.2.1
    have := ten_le h1.1.2
    omega
  · omega
end
end Go.Proofs.YtljlioglpaogdabDoor
