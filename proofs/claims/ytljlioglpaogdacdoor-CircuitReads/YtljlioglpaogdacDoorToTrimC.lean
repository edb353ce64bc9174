/- poly.placed. · croftref.In, croftref.Ats. · croftref.digits. · Slices of ints that are read; shares that a call gathers. · What each call of package field answers: the rest of the sum, the difference, the product, the power, the inverse; no world is changed. · croftref.Norm, Add, Mul: the same rests, by other roads. · croftref.Sum. · Two lists of shares that a call gathers in turn; one behind the other. · poly.trim, poly.normal. -/
import Derived.Test.YtljlioglpaogdacDoorToShamirM
import Derived.Test.YtljlioglpaogdacDoorToPolyM3
import Derived.Test.YtljlioglpaogdacDoorProg
import Derived.Laws.Strings
import Derived.WalkKit
import Derived.WalkSpells
import Derived.WalkLawsBesides
import Derived.Laws.AppendOwnNone
namespace Go.Proofs.YtljlioglpaogdacDoor
set_option linter.unusedVariables false
set_option maxRecDepth 100000
set_option maxHeartbeats 8000000
section
open Crm Go.RowKit
/-- A call that tells whether p holds, and turns nothing that was there. -/
def Tells (p : Prop) (w : World) (e : Ending) (w' : World) : Prop := ∃ r : Bool, e = .returned (.bool r) ∧ (r = true ↔ p) ∧ Below w.heap.size w w'
theorem Tells.no {p : Prop} {w w' : World} (h : ¬ p) (hb : Below w.heap.size w w') : Tells p w (.returned (.bool false)) w' := ⟨false, rfl, by simp [h], hb⟩
theorem rInY (n lo hi : Int) (w : World) (h1 : lo ≤ n) (h2 : n ≤ hi) :
    Calls Tryd.prog 27 #[.int .i64 n, .int .i64 lo, .int .i64 hi] w fun e w' => e = .returned (.bool true) ∧ w' = w := by
  go_enter Tryd.func27, Tryd.ntmps27
  go_wp2
  go_ret
  exact ⟨rfl, rfl⟩
theorem rInN (n lo hi : Int) (w : World) (h : n < lo ∨ hi < n) :
    Calls Tryd.prog 27 #[.int .i64 n, .int .i64 lo, .int .i64 hi] w fun e w' => e = .returned (.bool false) ∧ w' = w := by
  by_cases h1 : n < lo
  · clear h
    go_enter Tryd.func27, Tryd.ntmps27
    go_wp2
    go_ret
    exact ⟨rfl, rfl⟩
  · have h2 : hi < n := by omega
    have hd : decide (n ≤ hi) = false := by simp; omega
    clear h
    go_enter Tryd.func27, Tryd.ntmps27
    go_wp2
    go_ret
    exact ⟨rfl, rfl⟩
/-- Byte i of a text. -/
def bt (s : ByteArray) (i : Nat) : Int := ((s.get! i).toNat : Int)
theorem bt_bd (s : ByteArray) (i : Nat) : 0 ≤ bt s i ∧ bt s i ≤ 255 := by
  have := (s.get! i).toNat_lt
  unfold bt
  omega
theorem bt_get (s : ByteArray) {i : Nat} (h : i < s.size) : ((s[i]'h).toNat : Int) = bt s i := by
  unfold bt
  have : s.get! i = s[i]'h := getElem!_pos s.data i h
  rw [this]
theorem bt_run {P : Program} {t : TypeId} (ht : P.underlying t = some .string) (s : ByteArray) {i : Nat} (h : i < s.size) (w : World) : (Instr.index t (.string s) (.int .i64 (i : Int))).run P w = .ok (.int .u8 (bt s i)) w := by
  rw [run_index_string w t s .i64 (i : Int) ht, dif_pos ⟨by omega, by omega⟩]
  simp only [Int.toNat_natCast]
  rw [bt_get s h]
/-- The number of the first k digits. -/
def dgn (s : ByteArray) : Nat → Int
  | 0 => 0
  | k + 1 => dgn s k * 10 + bt s k - 48
/-- The first k bytes are digits. -/
def dgs (s : ByteArray) (k : Nat) : Prop := ∀ i, i < k → 48 ≤ bt s i ∧ bt s i ≤ 57
theorem dgs_zero (s : ByteArray) : dgs s 0 := fun i hi => by omega
theorem dgs_succ {s : ByteArray} {k : Nat} (h : dgs s k) (h0 : 48 ≤ bt s k) (h1 : bt s k ≤ 57) : dgs s (k + 1) := fun i hi => by
  by_cases e : i = k
  · rw [e]; exact ⟨h0, h1⟩
  · exact h i (by omega)
theorem dgs_not {s : ByteArray} {k m : Nat} (hk : k < m) (h : bt s k < 48 ∨ 57 < bt s k) : ¬ dgs s m := fun e => by
  have := e k hk
  omega
theorem dgn_bd {s : ByteArray} : ∀ {k : Nat}, dgs s k → 0 ≤ dgn s k ∧ dgn s k < 10 ^ k
  | 0, _ => by simp [dgn]
  | k + 1, h => by
    have h1 := dgn_bd (k := k) fun i hi => h i (by omega)
    have h2 := h k (by omega)
    rw [dgn, Int.pow_succ]
    omega
theorem ten_le {k : Nat} (h : k ≤ 10) : (10 : Int) ^ k ≤ 10000000000 := by
  have : k = 0 ∨ k = 1 ∨ k = 2 ∨ k = 3 ∨ k = 4 ∨ k = 5 ∨ k = 6 ∨ k = 7 ∨ k = 8 ∨ k = 9 ∨ k = 10 := by omega
  rcases this with rfl | rfl | rfl | rfl | rfl | rfl | rfl | rfl | rfl | rfl | rfl <;> decide
/-- A number: one to ten digits, without noughts ahead. -/
def okd (s : ByteArray) : Prop := (1 ≤ s.size ∧ s.size ≤ 10) ∧ dgs s s.size ∧ ¬ (1 < s.size ∧ bt s 0 = 48)
def Dgt (s : ByteArray) (r : Int) : Prop := (okd s ∧ r = dgn s s.size) ∨ (¬ okd s ∧ r = -1)
theorem Dgt.one {s : ByteArray} {r q : Int} (h : Dgt s r) (k : Dgt s q) : r = q := by
  rcases h with ⟨h1, rfl⟩ | ⟨h1, rfl⟩ <;> rcases k with ⟨k1, rfl⟩ | ⟨k1, rfl⟩
  · rfl
  · exact absurd h1 k1
  · exact absurd k1 h1
  · rfl
theorem Dgt.bd {s : ByteArray} {r : Int} (h : Dgt s r) : -1 ≤ r ∧ r ≤ 9999999999 := by
  rcases h with ⟨h1, rfl⟩ | ⟨h1, rfl⟩
  · have := dgn_bd h1.2.1
    have := ten_le h1.1.2
    omega
  · omega

theorem rDigits (s : ByteArray) (w : World) (hs : s.size ≤ 9223372036854775807) :
    Calls Tryd.prog 44 #[.string s] w fun e w' => ∃ r, e = .returned (.int .i64 r) ∧ Dgt s r ∧ w' = w := by
  go_enter Tryd.func44, Tryd.ntmps44
  go_wp2
  go_loopw [3, 4] (fun v i wr => ∃ k : Nat, k ≤ s.size ∧ k ≤ 11 ∧ i = .int .i64 k ∧ v = .int .i64 (dgn s k) ∧ Hid (dgs s k) ∧ wr = w) (fun _ i _ => 11 - (intOf i).toNat)
  case atStart => exact ⟨0, Nat.zero_le _, by omega, rfl, rfl, dgs_zero s, rfl⟩
  case round =>
    obtain ⟨k, hk, hk11, rfl, rfl, HD, rfl⟩ := hrel
    by_cases hlt : k < s.size
    · by_cases hkl : k < 11
      · obtain ⟨x, HX⟩ : ∃ x, Hid (bt s k = x) := ⟨_, rfl⟩
        have hx := bt_bd s k
        have hix := fun w => bt_run (P := Tryd.prog) Tryd.underlying9 s hlt w
        rw [HX.out] at hx hix
        have hd := dgn_bd HD.out
        have ht := ten_le (k := k) (by omega)
        obtain ⟨d, Hd⟩ : ∃ d, Hid (dgn s k = d) := ⟨_, rfl⟩
        rw [Hd.out] at hd ⊢
        have hd2 : d ≤ 9999999999 := by omega
        have hd0 := hd.1
        clear hd ht
        have HN : Hid (x < 48 ∨ 57 < x → Dgt s (-1)) := fun e => .inr ⟨fun o => dgs_not hlt (by rw [HX.out]; exact e) o.2.1, rfl⟩
        by_cases hlo : x < 48
        · go_wp2
          go_ret
          exact ⟨_, rfl, HN.out (.inl hlo), rfl⟩
        · by_cases hhi : 57 < x
          · go_wp2
            go_ret
            exact ⟨_, rfl, HN.out (.inr hhi), rfl⟩
          · have HD2 : Hid (dgs s (k + 1)) := dgs_succ HD.out (by rw [HX.out]; omega) (by rw [HX.out]; omega)
            have HV : Hid (dgn s (k + 1) = d * 10 + x - 48) := by unfold Hid; rw [dgn, Hd.out, HX.out]
            have hxw : IntKind.i64.wrap x = x := by rw [IntKind.wrap_i64]; omega
            go_wp2
            go_roundw
            case rel => exact ⟨k + 1, by omega, by omega, by go_num, by rw [HV.out], HD2, trivial⟩
            case measure => simp [intOf]; omega
      · have HN : Hid (Dgt s (-1)) := .inr ⟨fun o => by have := o.1; omega, rfl⟩
        have hk12 : k = 11 := by omega
        subst hk12
        go_wp2_with (go_at_call 27; refine (rInN _ _ _ _ (by omega)).mono ?_; rintro e w' ⟨rfl, hw⟩; have hw := hw.symm; subst hw)
        go_ret
        exact ⟨_, rfl, HN.out, rfl⟩
    · have hks : k = s.size := by omega
      have hn1 : ¬ ((k : Int) < (s.size : Int)) := by omega
      by_cases hr : 1 ≤ s.size ∧ s.size ≤ 10
      · by_cases h1 : 1 < s.size
        · obtain ⟨x, HX⟩ : ∃ x, Hid (bt s 0 = x) := ⟨_, rfl⟩
          have hx := bt_bd s 0
          have hix := fun w => bt_run (P := Tryd.prog) Tryd.underlying9 s (i := 0) (by omega) w
          rw [HX.out] at hx hix
          simp only [Int.natCast_zero] at hix
          by_cases h48 : x = 48
          · have HN : Hid (Dgt s (-1)) := .inr ⟨fun o => o.2.2 ⟨h1, by rw [HX.out]; exact h48⟩, rfl⟩
            subst h48
            go_wp2_with (go_at_call 27; refine (rInY _ _ _ _ (by omega) (by omega)).mono ?_; rintro e w' ⟨rfl, hw⟩; have hw := hw.symm; subst hw)
            go_ret
            exact ⟨_, rfl, HN.out, rfl⟩
          · have HN : Hid (Dgt s (dgn s s.size)) := .inl ⟨⟨hr, by rw [← hks]; exact HD.out, fun e => h48 (by rw [← HX.out]; exact e.2)⟩, rfl⟩
            have hxb : (x == 48) = false := by rw [beq_eq_false_iff_ne]; exact h48
            clear h48
            go_wp2_with (go_at_call 27; refine (rInY _ _ _ _ (by omega) (by omega)).mono ?_; rintro e w' ⟨rfl, hw⟩; have hw := hw.symm; subst hw)
            go_ret
            exact ⟨_, rfl, HN.out, rfl⟩
        · have HN : Hid (Dgt s (dgn s s.size)) := .inl ⟨⟨hr, by rw [← hks]; exact HD.out, fun e => h1 e.1⟩, rfl⟩
          go_wp2_with (go_at_call 27; refine (rInY _ _ _ _ (by omega) (by omega)).mono ?_; rintro e w' ⟨rfl, hw⟩; have hw := hw.symm; subst hw)
          go_ret
          exact ⟨_, rfl, HN.out, rfl⟩
      · have HN : Hid (Dgt s (-1)) := .inr ⟨fun o => hr o.1, rfl⟩
        go_wp2_with (go_at_call 27; refine (rInN _ _ _ _ (by omega)).mono ?_; rintro e w' ⟨rfl, hw⟩; have hw := hw.symm; subst hw)
        go_ret
        exact ⟨_, rfl, HN.out, rfl⟩
/-- A slice of ints that is read. -/
structure RdI (w : World) (a : Option Addr) (n c : Nat) (xs : List Int) : Prop where
  len : xs.length = n
  cap : n ≤ c
  max : c ≤ maxLen
  bd : ∀ x ∈ xs, -9223372036854775808 ≤ x ∧ x ≤ 9223372036854775807
  nil : a = none → c = 0
  cell : ∀ x, a = some x → ∀ i, i < n → w.cell? (x.add i) = some (.int .i64 (xs.getD i 0))
theorem RdI.one {w : World} {a : Option Addr} {n c : Nat} {xs : List Int} (h : RdI w a n c xs) {k : Nat} (hk : k < n) :
    ∃ b o x, a = some ⟨b, o, none⟩ ∧ b < w.heap.size ∧ Hid (xs.getD k 0 = x) ∧ -9223372036854775808 ≤ x ∧ x ≤ 9223372036854775807 ∧ w.cell? ⟨b, o + k, none⟩ = some (.int .i64 x) := by
  cases ha : a with
  | none => have := h.nil ha; have := h.cap; omega
  | some x =>
    have h0 := h.cell x ha k hk
    have hs : x.spot = none := by
      have := spot_none (h.cell x ha 0 (by omega))
      unfold Addr.add at this
      split at this <;> simp_all
    obtain ⟨b, o, s⟩ := x
    simp only at hs
    subst hs
    rw [Addr.add_lit] at h0
    have hb := h.bd (xs.getD k 0) (getD_mem (by rw [h.len]; exact hk))
    exact ⟨b, o, _, rfl, World.block_lt_of_cell? w _ h0, rfl, hb.1, hb.2, h0⟩
theorem RdI.below {w w' : World} {a : Option Addr} {n c : Nat} {xs : List Int} (h : RdI w a n c xs) (hb : Below w.heap.size w w') : RdI w' a n c xs := by
  refine ⟨h.len, h.cap, h.max, h.bd, h.nil, fun x hx i hi => ?_⟩
  have := h.cell x hx i hi
  rw [hb.cell (World.block_lt_of_cell? w _ this)]
  exact this
theorem RdI.drewN {w : World} {a : Option Addr} {n c : Nat} {xs : List Int} (h : RdI w a n c xs) (q : Nat) : RdI (w.drewN q) a n c xs := ⟨h.len, h.cap, h.max, h.bd, h.nil, h.cell⟩
theorem RdI.take {w : World} {a : Option Addr} {n c : Nat} {xs : List Int} (h : RdI w a n c xs) {k : Nat} (hk : k ≤ n) : RdI w a k c (xs.take k) := by
  refine ⟨by have := h.len; simp; omega, by have := h.cap; omega, h.max, fun x hx => h.bd x (List.mem_of_mem_take hx), h.nil, fun x hx i hi => ?_⟩
  rw [h.cell x hx i (by omega)]
  congr 2
  simp [hi]

/-- The cells of shares. -/
def shc (l : List (Int × Int)) : List Value := l.flatMap fun p => [.int .i64 p.1, .int .u64 p.2]
theorem shc_get : ∀ (l : List (Int × Int)) (i : Nat), i < l.length → (shc l)[i * 2]? = some (.int .i64 (l.getD i (0, 0)).1) ∧ (shc l)[i * 2 + 1]? = some (.int .u64 (l.getD i (0, 0)).2)
  | [], i, h => by simp at h
  | p :: l, 0, _ => ⟨rfl, rfl⟩
  | p :: l, i + 1, h => by
    have := shc_get l i (by simpa using h)
    have e1 : (i + 1) * 2 = i * 2 + 1 + 1 := by omega
    rw [e1]
    exact this

theorem RdS.own {w : World} {base n : Nat} {E : TypeId} {v : Value} {l : List (Int × Int)} (h : w.ownsRow base E 2 v n (shc l)) (hl : l.length = n)
    (hb : ∀ i, i < n → (-9223372036854775808 ≤ (l.getD i (0, 0)).1 ∧ (l.getD i (0, 0)).1 ≤ 9223372036854775807) ∧ 0 ≤ (l.getD i (0, 0)).2 ∧ (l.getD i (0, 0)).2 ≤ 18446744073709551615) : ∃ a c, v = .slice a n c ∧ RdS w a n c l := by
  rcases h.2 with ⟨rfl, rfl⟩ | ⟨g, cap, cur, rfl, hb', hg, h1, h2, hs, ht⟩
  · exact ⟨none, 0, rfl, ⟨hl, Nat.le_refl _, Nat.zero_le _, hb, fun _ => rfl, by simp⟩⟩
  · refine ⟨_, _, rfl, ⟨hl, h1, h2, hb, by simp, fun x hx i hi => ?_⟩⟩
    obtain rfl := Option.some.inj hx
    have := shc_get l i (by omega)
    exact ⟨h.cells (g := g) rfl _ _ this.1, h.cells (g := g) rfl _ _ this.2⟩

theorem own_below2 {w w' : World} {base n : Nat} {E : TypeId} {v : Value} {xs : List Value} (h : w.ownsRow base E 2 v n xs) (hb : Below w.heap.size w w') : w'.ownsRow base E 2 v n xs :=
  h.kept (grown_below hb none) (by cases hv : v.ownBlock <;> simp)

theorem infoZ : (Tryd.prog.info? 3).map (fun i => (i.zero, i.size, i.bytes)) = some (some (.int .i64 0), 1, 8) := by kernel_rfl
/-- What append has gathered reads as the ints that it gathered. -/
theorem RdI.own {w : World} {base n : Nat} {E : TypeId} {v : Value} {L : List Int} (h : w.ownsRow base E 1 v n (zns L)) (hb : ∀ x ∈ L, -9223372036854775808 ≤ x ∧ x ≤ 9223372036854775807) : ∃ a c, v = .slice a n c ∧ RdI w a n c L := by
  have hl : L.length = n := by have := h.1; rw [zns_len] at this; omega
  rcases h.2 with ⟨rfl, rfl⟩ | ⟨g, cap, cur, rfl, hb', hg, h1, h2, hs, ht⟩
  · exact ⟨none, 0, rfl, ⟨hl, Nat.le_refl _, Nat.zero_le _, hb, fun _ => rfl, by simp⟩⟩
  · refine ⟨_, _, rfl, ⟨hl, h1, h2, hb, by simp, fun x hx i hi => ?_⟩⟩
    obtain rfl := Option.some.inj hx
    rw [Addr.add_lit, Nat.zero_add]
    exact zns_at h hi
theorem fNorm (a : Int) (w : World) (h0 : 0 ≤ a) (h1 : a ≤ 18446744073709551615) :
    Calls Tryd.prog 52 #[.int .u64 a] w fun e w' => e = .returned (.int .u64 (nm a)) ∧ w' = w := by
  go_enter Tryd.func52, Tryd.ntmps52
  go_wp2
  go_ret
  exact ⟨rfl, rfl⟩
theorem rNorm (a : Int) (w : World) (h0 : 0 ≤ a) (h1 : a ≤ 18446744073709551615) :
    Calls Tryd.prog 26 #[.int .u64 a] w fun e w' => e = .returned (.int .u64 (nm a)) ∧ w' = w := by
  have HN : Hid (nm a = a - a / 2147483647 * 2147483647) := by unfold nm Hid; omega
  go_enter Tryd.func26, Tryd.ntmps26
  go_wp2
  go_ret
  rw [HN.out]
  exact ⟨rfl, rfl⟩
theorem own_base {w : World} {B B' n : Nat} {E : TypeId} {v : Value} {xs : List Value} (h : w.ownsRow B E 1 v n xs) (hB : B' ≤ B) : w.ownsRow B' E 1 v n xs := by
  rcases h.2 with h' | ⟨g, cap, cur, e1, e2, e3⟩
  · exact ⟨h.1, Or.inl h'⟩
  · exact ⟨h.1, Or.inr ⟨g, cap, cur, e1, by omega, e3⟩⟩
/-- Two such lists, apart. -/
structure Two (w : World) (B : Nat) (E : TypeId) (v1 v2 : Value) (l1 l2 : List (Int × Int)) : Prop where
  o1 : w.ownsRow B E 2 v1 l1.length (shc l1)
  o2 : w.ownsRow B E 2 v2 l2.length (shc l2)
  ne : ∀ g, v1.ownBlock = some g → v2.ownBlock ≠ some g
theorem Two.start (w : World) (B : Nat) (E : TypeId) : Two w B E (.slice none 0 0) (.slice none 0 0) [] [] := ⟨World.ownsRow_nil _ _ _ _, World.ownsRow_nil _ _ _ _, fun g h => by simp [Value.ownBlock] at h⟩
theorem Two.add {w w' : World} {B : Nat} {E : TypeId} {v1 v2 v' : Value} {l1 l2 : List (Int × Int)} {p : Int × Int} (h : Two w B E v1 v2 l1 l2) (ho : w'.ownsRow B E 2 v' (l1.length + 1) (shc (l1 ++ [p]))) (hg : w.grownBy w' v1.ownBlock) (hat : v'.ownBlock = v1.ownBlock ∨ ∃ k, v'.ownBlock = some k ∧ w.heap.size ≤ k) : Two w' B E v' v2 (l1 ++ [p]) l2 := by
  refine ⟨by rw [List.length_append, List.length_singleton]; exact ho, h.o2.kept hg ?_, fun g h1 h2 => ?_⟩
  · cases hv : v1.ownBlock with
    | none => cases hv2 : v2.ownBlock <;> simp
    | some g => exact .inr (h.ne g hv)
  · rcases hat with hat | ⟨k, hk, hle⟩
    · exact h.ne g (by rw [← hat]; exact h1) h2
    · have h3 := (h.o2.lt g h2).2
      rw [hk] at h1
      have := Option.some.inj h1
      omega
theorem Two.below {w w' : World} {B : Nat} {E : TypeId} {v1 v2 : Value} {l1 l2 : List (Int × Int)} (h : Two w B E v1 v2 l1 l2) (hb : Below w.heap.size w w') : Two w' B E v1 v2 l1 l2 := ⟨own_below2 h.o1 hb, own_below2 h.o2 hb, h.ne⟩

/-- Lists of other elements lie elsewhere. -/
theorem own_apart {w : World} {B1 B2 n1 n2 z1 z2 : Nat} {E1 E2 : TypeId} {v1 v2 : Value} {xs ys : List Value} (h1 : w.ownsRow B1 E1 z1 v1 n1 xs) (h2 : w.ownsRow B2 E2 z2 v2 n2 ys) (hE : E1 ≠ E2) : v2.ownBlock = none ∨ v2.ownBlock ≠ v1.ownBlock := by
  rcases h2.2 with ⟨rfl, _⟩ | ⟨g, cap, cur, rfl, _, hg, _⟩
  · exact .inl rfl
  · right
    rcases h1.2 with ⟨rfl, _⟩ | ⟨g', cap', cur', rfl, _, hg', _⟩
    · simp [Value.ownBlock]
    · intro e
      simp [Value.ownBlock] at e
      subst e
      rw [hg] at hg'
      simp only [Option.some.injEq, Obj.cells.injEq] at hg'
      exact hE hg'.2.1.symm
/-- The first k numbers of L are those of nz xs, the rest 0. -/
theorem info43 : (Tryd.prog.info? 43).map (fun i => (i.zero, i.size, i.bytes)) = some (some (.int .u64 0), 1, 8) := by kernel_rfl
end
end Go.Proofs.YtljlioglpaogdacDoor
