/- What each call of package field answers: the rest of the sum, the difference, the product, the power, the inverse; no world is changed. · poly.trim, poly.normal. · croftref.Rest. · poly.placed. · Slices of ints that are read; shares that a call gathers. · croftref.Rows, rowOf, TwoNeed, number. · croftref.number: the numbers of a dealing in two variables. · Two lists of shares that a call gathers in turn; one behind the other. · Lists of rows (api.Row) that a call gathers. · croftref.Sum. · croftref.TwoDeal. · croftkeep.short; short lists that a law writes out. · (*shamir.parties).join, shamir.Check. · shamir.Check. -/
import Derived.Test.YtljlioglpaogdagDoorToGaussM
import Derived.Test.YtljlioglpaogdagDoorProg
import Derived.WalkKit
import Derived.WalkSpells
import Derived.WalkLawsBesides
import Derived.Test.YtljlioglpaogdagDoorToBadM
import Derived.Laws.AppendOwnNone
namespace Go.Proofs.YtljlioglpaogdagDoor
set_option linter.unusedVariables false
set_option maxRecDepth 100000
set_option maxHeartbeats 8000000
section
open Crm Go.RowKit
theorem fNorm (a : Int) (w : World) (h0 : 0 ≤ a) (h1 : a ≤ 18446744073709551615) :
    Calls Tryd.prog 37 #[.int .u64 a] w fun e w' => e = .returned (.int .u64 (nm a)) ∧ w' = w := by
  go_enter Tryd.func37, Tryd.ntmps37
  go_wp2
  go_ret
  exact ⟨rfl, rfl⟩

theorem fAdd (a b : Int) (w : World) (h0 : 0 ≤ a) (h1 : a ≤ 18446744073709551615) (g0 : 0 ≤ b) (g1 : b ≤ 18446744073709551615) :
    Calls Tryd.prog 45 #[.int .u64 a, .int .u64 b] w fun e w' => e = .returned (.int .u64 (nm (a + b))) ∧ w' = w := by
  have ha := nm_bd a
  have hb := nm_bd b
  have HN : Hid (nm (a + b) = nm (nm a + nm b)) := by rw [nm_addl, nm_addr]; exact rfl
  go_enter Tryd.func45, Tryd.ntmps45
  go_wp2_with (go_at_call 37; refine (fNorm _ _ (by omega) (by omega)).mono ?_; rintro e w' ⟨rfl, rfl⟩)
  go_ret
  rw [HN.out]
  exact ⟨rfl, rfl⟩

theorem fSub (a b : Int) (w : World) (h0 : 0 ≤ a) (h1 : a ≤ 18446744073709551615) (g0 : 0 ≤ b) (g1 : b ≤ 18446744073709551615) :
    Calls Tryd.prog 59 #[.int .u64 a, .int .u64 b] w fun e w' => e = .returned (.int .u64 (nm (a - b))) ∧ w' = w := by
  have ha := nm_bd a
  have hb := nm_bd b
  have HN : Hid (nm (a - b) = nm (nm a + 2147483647 - nm b)) := by unfold nm Hid; omega
  go_enter Tryd.func59, Tryd.ntmps59
  go_wp2_with (go_at_call 37; refine (fNorm _ _ (by omega) (by omega)).mono ?_; rintro e w' ⟨rfl, rfl⟩)
  go_ret
  rw [HN.out]
  exact ⟨rfl, rfl⟩

theorem mul_bd {x y : Int} (hx : 0 ≤ x ∧ x ≤ 2147483646) (hy : 0 ≤ y ∧ y ≤ 2147483646) : 0 ≤ x * y ∧ x * y ≤ 4611686009837453316 :=
  ⟨Int.mul_nonneg hx.1 hy.1, by have := Int.mul_le_mul hx.2 hy.2 hy.1 (by omega : (0 : Int) ≤ 2147483646); omega⟩

theorem fMul (a b : Int) (w : World) (h0 : 0 ≤ a) (h1 : a ≤ 18446744073709551615) (g0 : 0 ≤ b) (g1 : b ≤ 18446744073709551615) :
    Calls Tryd.prog 49 #[.int .u64 a, .int .u64 b] w fun e w' => e = .returned (.int .u64 (nm (a * b))) ∧ w' = w := by
  have ha := nm_bd a
  have hb := nm_bd b
  have hm := mul_bd ha hb
  have HN : Hid (nm (a * b) = nm (nm a * nm b)) := by rw [nm_mull, nm_mulr]; exact rfl
  go_enter Tryd.func49, Tryd.ntmps49
  go_wp2_with (go_at_call 37; refine (fNorm _ _ (by omega) (by omega)).mono ?_; rintro e w' ⟨rfl, rfl⟩)
  go_ret
  rw [HN.out]
  exact ⟨rfl, rfl⟩

theorem fPow (a n : Int) (w : World) (h0 : 0 ≤ a) (h1 : a ≤ 18446744073709551615) (g0 : 0 ≤ n) (g1 : n ≤ 18446744073709551615) :
    Calls Tryd.prog 107 #[.int .u64 a, .int .u64 n] w fun e w' => e = .returned (.int .u64 (pw a n.toNat)) ∧ w' = w := by
  have ha := nm_bd a
  go_enter Tryd.func107, Tryd.ntmps107
  go_wp2_with (go_at_call 37; refine (fNorm _ _ (by omega) (by omega)).mono ?_; rintro e w' ⟨rfl, rfl⟩)
  go_loop [1, 5, 6] (fun vn vp vs => ∃ (m : Nat) (p s : Int), vn = .int .u64 m ∧ vp = .int .u64 p ∧ vs = .int .u64 s ∧ (m : Int) ≤ 18446744073709551615 ∧ (0 ≤ p ∧ p ≤ 2147483646) ∧ (0 ≤ s ∧ s ≤ 2147483646) ∧ nm (p * pw s m) = pw a n.toNat) (fun vn _ _ => (intOf vn).toNat)
  case atStart =>
    obtain ⟨k, rfl⟩ := Int.eq_ofNat_of_zero_le g0
    exact ⟨k, 1, nm a, rfl, rfl, rfl, g1, by omega, ha, by rw [Int.one_mul, pw_nm, Int.toNat_natCast]; exact nm_nm _⟩
  case round =>
    obtain ⟨m, p, s, rfl, rfl, rfl, hm, hp, hs, hr⟩ := hrel
    have HR : Hid (nm (p * pw s m) = pw a n.toNat) := hr
    clear hr
    have hpp := mul_bd hp hs
    have hss := mul_bd hs hs
    have hnp := nm_bd (p * s)
    have hns := nm_bd (s * s)
    have hand := and_one_u64 m (by omega) hm
    by_cases hlt : 0 < m
    · by_cases hb : m % 2 = 1
      · have hand1 : (bits BinOp.and IntKind.u64 (m : Int) 1 == 1) = true := by rw [hand, beq_iff_eq]; omega
        clear hand
        have HB : Hid (m % 2 = 1) := hb
        clear hb
        go_wp2_with (go_at_call 49; refine (fMul _ _ _ (by omega) (by omega) (by omega) (by omega)).mono ?_; rintro e w' ⟨rfl, rfl⟩)
        go_round
        case rel => exact ⟨m / 2, _, _, rfl, rfl, rfl, by omega, hnp, hns, by rw [low1 p s m HB.out]; exact HR.out⟩
        case measure => simp [intOf]; omega
      · have hand1 : (bits BinOp.and IntKind.u64 (m : Int) 1 == 1) = false := by rw [hand, beq_eq_false_iff_ne]; omega
        clear hand
        have HB : Hid (m % 2 = 0) := by unfold Hid; omega
        clear hb
        go_wp2_with (go_at_call 49; refine (fMul _ _ _ (by omega) (by omega) (by omega) (by omega)).mono ?_; rintro e w' ⟨rfl, rfl⟩)
        go_round
        case rel => exact ⟨m / 2, _, _, rfl, rfl, rfl, by omega, hp, hns, by rw [low0 p s m HB.out]; exact HR.out⟩
        case measure => simp [intOf]; omega
    · have HM : Hid (m = 0) := by unfold Hid; omega
      clear hand
      go_wp2
      go_ret
      have h := HR.out
      rw [HM.out, pw_zero, Int.mul_one, nm_small hp.1 hp.2] at h
      rw [h]
      exact ⟨rfl, rfl⟩

theorem fInv1 (a : Int) (w : World) (h0 : 0 ≤ a) (h1 : a ≤ 18446744073709551615) (hz : nm a ≠ 0) :
    Calls Tryd.prog 87 #[.int .u64 a] w fun e w' => e = .returned (.tuple #[.int .u64 (iv a), .int .i64 0]) ∧ w' = w := by
  have hz' : (nm a == 0) = false := by rw [beq_eq_false_iff_ne]; exact hz
  go_enter Tryd.func87, Tryd.ntmps87
  go_wp2_with (first | (go_at_call 37; refine (fNorm _ _ (by omega) (by omega)).mono ?_; rintro e w' ⟨rfl, rfl⟩) | (go_at_call 107; refine (fPow _ _ _ (by omega) (by omega) (by omega) (by omega)).mono ?_; rintro e w' ⟨rfl, rfl⟩))
  go_ret2
  exact ⟨rfl, rfl⟩
theorem cTrim (a : Option Addr) (n c : Nat) (xs : List Int) (w : World) (h : Rd w a n c xs) :
    Calls Tryd.prog 88 #[.slice a n c] w fun e w' => e = .returned (.slice a (tl xs n) c) ∧ w' = w := by
  have hm := h.max
  have hcap := h.cap
  unfold maxLen at hm
  go_enter Tryd.func88, Tryd.ntmps88
  go_wp2
  go_loop [3] (fun v => ∃ k : Nat, k ≤ n ∧ v = .int .i64 k ∧ Hid (tl xs n = tl xs k)) (fun v => (intOf v).toNat)
  case atStart => exact ⟨n, Nat.le_refl _, rfl, rfl⟩
  case round =>
    obtain ⟨k, hk, rfl, HR⟩ := hrel
    cases k with
    | zero =>
      go_wp2
      go_ret
      rw [HR.out]
      exact ⟨rfl, rfl⟩
    | succ m =>
      obtain ⟨b, o, x, rfl, hb, HX, hx0, hx1, hc⟩ := h.one (show m < n by omega)
      by_cases hx : x = 0
      · subst hx
        go_wp2
        go_round
        case rel => exact ⟨m, by omega, rfl, HR.out.trans (tl_zero xs HX.out)⟩
        case measure => simp [intOf]
      · have hxb : (x == 0) = false := by rw [beq_eq_false_iff_ne]; exact hx
        have HL : Hid (tl xs n = m + 1) := HR.out.trans (tl_last xs (by rw [HX.out]; exact hx))
        go_wp2
        go_ret
        rw [HL.out]
        exact ⟨rfl, rfl⟩

/-- The first k numbers of L are those of nz xs, the rest 0. -/
theorem info34 : (Tryd.prog.info? 34).map (fun i => (i.zero, i.size, i.bytes)) = some (some (.int .u64 0), 1, 8) := by kernel_rfl
end
section
open Go.RowKit
/-- A place of m. -/
def Placed (m : Nat) (e : Ending) : Prop := ∃ q : Nat, q < m ∧ e = .returned (.int .i64 q)
theorem rRest (i : Int) (m : Nat) (w : World) (hm : 0 < m) (hm2 : m ≤ 1000) :
    Calls Tryd.prog 36 #[.int .i64 i, .int .i64 m] w fun e w' => Placed m e ∧ w' = w := by
  have hm3 : ¬ (m : Int) = 0 := by omega
  have h1 : -(m : Int) < Int.tmod i m := by have := Int.lt_tmod_of_pos i (show (0 : Int) < m by omega); omega
  have h2 : Int.tmod i m < m := Int.tmod_lt_of_pos i (show (0 : Int) < m by omega)
  obtain ⟨r, hr⟩ : ∃ r, Int.tmod i m = r := ⟨_, rfl⟩
  rw [hr] at h1 h2
  by_cases h3 : r < 0
  · go_enter Tryd.func36, Tryd.ntmps36
    go_wp2
    go_ret
    exact ⟨⟨(r + m).toNat, by omega, by show Ending.returned (Value.int .i64 (r + m)) = _; rw [Int.toNat_of_nonneg (by omega)]⟩, rfl⟩
  · go_enter Tryd.func36, Tryd.ntmps36
    go_wp2
    go_ret
    exact ⟨⟨r.toNat, by omega, by show Ending.returned (Value.int .i64 r) = _; rw [Int.toNat_of_nonneg (by omega)]⟩, rfl⟩
end
section
open Crm Go.RowKit
/-- A call that tells whether p holds, and turns nothing that was there. -/
def Tells (p : Prop) (w : World) (e : Ending) (w' : World) : Prop := ∃ r : Bool, e = .returned (.bool r) ∧ (r = true ↔ p) ∧ Below w.heap.size w w'
theorem Tells.yes {p : Prop} {w w' : World} (h : p) (hb : Below w.heap.size w w') : Tells p w (.returned (.bool true)) w' := ⟨true, rfl, by simp [h], hb⟩
theorem Tells.no {p : Prop} {w w' : World} (h : ¬ p) (hb : Below w.heap.size w w') : Tells p w (.returned (.bool false)) w' := ⟨false, rfl, by simp [h], hb⟩

/-- The variable that a round makes for a share. -/
theorem cell_alloc0 (w : World) (x y : Value) (t : TypeId) : (w.alloc (.cells #[x, y] t)).cell? ⟨w.heap.size, 0, none⟩ = some x := by
  rw [cell_of_row _ _ _ #[x, y] t (0, 0) (heap_alloc_new w _)]; rfl
theorem cell_alloc1 (w : World) (x y : Value) (t : TypeId) : (w.alloc (.cells #[x, y] t)).cell? ⟨w.heap.size, 1, none⟩ = some y := by
  rw [cell_of_row _ _ _ #[x, y] t (0, 0) (heap_alloc_new w _)]; rfl

theorem cPlaced (a : Option Addr) (n c : Nat) (l : List (Int × Int)) (w : World) (h : RdS w a n c l) (hn : n ≤ 1000) :
    Calls Tryd.prog 101 #[.slice a n c] w fun e w' => Tells (okk l n) w e w' := by
  have hlen := h.len
  have hcap := h.cap
  have hmax := h.max
  unfold maxLen at hmax
  go_enter Tryd.func101, Tryd.ntmps101
  go_wp2
  go_loopw [9] (fun i wr => ∃ k : Nat, k ≤ n ∧ i = .int .i64 k ∧ Hid (okk l k) ∧ Below w.heap.size w wr) (fun i _ => n - (intOf i).toNat)
  case atStart => exact ⟨0, Nat.zero_le _, rfl, okk_zero l, Below.refl _ _⟩
  case round =>
    obtain ⟨k, hk, rfl, HK, hbel⟩ := hrel
    obtain ⟨wo, hwo⟩ : ∃ wo, wo = wr := ⟨_, rfl⟩
    subst hwo
    have hs1 := hbel.size
    by_cases hlt : k < n
    · have hR := h.below hbel
      obtain ⟨b, o, x, y, rfl, hbb, HX, HY, hx0, hx1, hy0, hy1, hcx, hcy⟩ := hR.one hlt
      by_cases hx2 : x < 1
      · have HN : Hid (¬ okk l n) := fun hk => by have := (hk k hlt).1.1; rw [HX.out] at this; omega
        go_wp2
        go_ret
        exact .no HN.out (hbel.alloc hs1 _)
      · by_cases hx3 : 2147483647 ≤ x
        · have HN : Hid (¬ okk l n) := fun hk => by have := (hk k hlt).1.2; rw [HX.out] at this; omega
          go_wp2
          go_ret
          exact .no HN.out (hbel.alloc hs1 _)
        · go_wp2
          go_loopw [27] (fun i wr => ∃ m : Nat, m ≤ k ∧ i = .int .i64 m ∧ Hid (∀ j, j < m → (l.getD j (0, 0)).1 ≠ x) ∧ Below (wo.heap.size + 1) (wo.alloc (.cells #[.int .i64 x, .int .u64 y] 68)) wr) (fun i _ => k - (intOf i).toNat)
          case atStart => exact ⟨0, Nat.zero_le _, rfl, fun j hj => by omega, Below.refl _ _⟩
          case round =>
            obtain ⟨m, hm, rfl, HM, hbm⟩ := hrel
            have hbw : Below w.heap.size w wr := (hbel.alloc hs1 _).trans (hbm.mono (by omega))
            have hs2 := hbw.size
            have hs3 : wo.heap.size + 1 ≤ wr.heap.size := by have := hbm.size; simp at this; omega
            have hcs : wr.cell? ⟨wo.heap.size, 0, none⟩ = some (.int .i64 x) := by rw [hbm.cell (by simp)]; exact cell_alloc0 _ _ _ _
            have hcs2 : ∀ ob : Obj, (wr.alloc ob).cell? ⟨wo.heap.size, 0, none⟩ = some (.int .i64 x) := fun ob => by
              rw [World.cell?_of_block (w := wr) (Below.heap_alloc _ _ _ (by simp only; omega))]; exact hcs
            by_cases hmk : m < k
            · have hR2 := h.below hbw
              obtain ⟨b', o', x', y', e', hbb', HX', HY', hx0', hx1', hy0', hy1', hcx', hcy'⟩ := hR2.one (show m < n by omega)
              simp only [Option.some.injEq, Addr.mk.injEq, and_true] at e'
              obtain ⟨rfl, rfl⟩ := e'
              by_cases hxx : x' = x
              · have HN : Hid (¬ okk l n) := fun hk => (hk k hlt).2 m hmk (by rw [HX'.out, HX.out]; exact hxx)
                have hxb : (x' == x) = true := by rw [beq_iff_eq]; exact hxx
                clear hxx
                go_wp2
                go_ret
                exact .no HN.out (hbw.alloc hs2 _)
              · have hxb : (x' == x) = false := by rw [beq_eq_false_iff_ne]; exact hxx
                have HM2 : Hid (∀ j, j < m + 1 → (l.getD j (0, 0)).1 ≠ x) := fun j hj => by
                  by_cases e : j = m
                  · rw [e, HX'.out]; exact hxx
                  · exact HM.out j (by omega)
                clear hxx
                go_wp2
                go_roundw
                case rel => exact ⟨m + 1, by omega, by go_num, HM2, hbm.alloc (by omega) _⟩
                case measure => simp [intOf]; omega
            · have hmk' : m = k := by omega
              subst hmk'
              have HK2 : Hid (okk l (m + 1)) := okk_succ HK.out HX.out (by omega) (by omega) HM.out
              go_wp2
              go_roundw
              case rel => exact ⟨m + 1, by omega, by go_num, HK2, hbw⟩
              case measure => simp [intOf]; omega
    · have hkn : k = n := by omega
      subst hkn
      go_wp2
      go_ret
      exact .yes HK.out hbel
/-- A slice of ints that is read. -/
structure RdI (w : World) (a : Option Addr) (n c : Nat) (xs : List Int) : Prop where
  len : xs.length = n
  cap : n ≤ c
  max : c ≤ maxLen
  bd : ∀ x ∈ xs, -9223372036854775808 ≤ x ∧ x ≤ 9223372036854775807
  nil : a = none → c = 0
  cell : ∀ x, a = some x → ∀ i, i < n → w.cell? (x.add i) = some (.int .i64 (xs.getD i 0))
theorem RdI.one {w : World} {a : Option Addr} {n c : Nat} {xs : List Int} (h : RdI w a n c xs) {k : Nat} (hk : k < n) :
    ∃ b o x, a = some ⟨b, o, none⟩ ∧ b < w.heap.size ∧ Hid (xs.getD k 0 = x) ∧ -9223372036854775808 ≤ x ∧ x ≤ 9223372036854775807 ∧ w.cell? ⟨b, o + k, none⟩ = some (.int .i64 x) := by
  cases ha : a with
  | none => have := h.nil ha; have := h.cap; omega
  | some x =>
    have h0 := h.cell x ha k hk
    have hs : x.spot = none := by
      have := spot_none (h.cell x ha 0 (by omega))
      unfold Addr.add at this
      split at this <;> simp_all
    obtain ⟨b, o, s⟩ := x
    simp only at hs
    subst hs
    rw [Addr.add_lit] at h0
    have hb := h.bd (xs.getD k 0) (getD_mem (by rw [h.len]; exact hk))
    exact ⟨b, o, _, rfl, World.block_lt_of_cell? w _ h0, rfl, hb.1, hb.2, h0⟩
theorem RdI.below {w w' : World} {a : Option Addr} {n c : Nat} {xs : List Int} (h : RdI w a n c xs) (hb : Below w.heap.size w w') : RdI w' a n c xs := by
  refine ⟨h.len, h.cap, h.max, h.bd, h.nil, fun x hx i hi => ?_⟩
  have := h.cell x hx i hi
  rw [hb.cell (World.block_lt_of_cell? w _ this)]
  exact this
theorem RdI.drewN {w : World} {a : Option Addr} {n c : Nat} {xs : List Int} (h : RdI w a n c xs) (q : Nat) : RdI (w.drewN q) a n c xs := ⟨h.len, h.cap, h.max, h.bd, h.nil, h.cell⟩
theorem RdI.take {w : World} {a : Option Addr} {n c : Nat} {xs : List Int} (h : RdI w a n c xs) {k : Nat} (hk : k ≤ n) : RdI w a k c (xs.take k) := by
  refine ⟨by have := h.len; simp; omega, by have := h.cap; omega, h.max, fun x hx => h.bd x (List.mem_of_mem_take hx), h.nil, fun x hx i hi => ?_⟩
  rw [h.cell x hx i (by omega)]
  congr 2
  simp [hi]

/-- The cells of shares. -/
def shc (l : List (Int × Int)) : List Value := l.flatMap fun p => [.int .i64 p.1, .int .u64 p.2]
theorem shc_snoc (l : List (Int × Int)) (p : Int × Int) : shc (l ++ [p]) = shc l ++ [.int .i64 p.1, .int .u64 p.2] := by simp [shc]
theorem shc_get : ∀ (l : List (Int × Int)) (i : Nat), i < l.length → (shc l)[i * 2]? = some (.int .i64 (l.getD i (0, 0)).1) ∧ (shc l)[i * 2 + 1]? = some (.int .u64 (l.getD i (0, 0)).2)
  | [], i, h => by simp at h
  | p :: l, 0, _ => ⟨rfl, rfl⟩
  | p :: l, i + 1, h => by
    have := shc_get l i (by simpa using h)
    have e1 : (i + 1) * 2 = i * 2 + 1 + 1 := by omega
    rw [e1]
    exact this

theorem RdS.own {w : World} {base n : Nat} {E : TypeId} {v : Value} {l : List (Int × Int)} (h : w.ownsRow base E 2 v n (shc l)) (hl : l.length = n)
    (hb : ∀ i, i < n → (-9223372036854775808 ≤ (l.getD i (0, 0)).1 ∧ (l.getD i (0, 0)).1 ≤ 9223372036854775807) ∧ 0 ≤ (l.getD i (0, 0)).2 ∧ (l.getD i (0, 0)).2 ≤ 18446744073709551615) : ∃ a c, v = .slice a n c ∧ RdS w a n c l := by
  rcases h.2 with ⟨rfl, rfl⟩ | ⟨g, cap, cur, rfl, hb', hg, h1, h2, hs, ht⟩
  · exact ⟨none, 0, rfl, ⟨hl, Nat.le_refl _, Nat.zero_le _, hb, fun _ => rfl, by simp⟩⟩
  · refine ⟨_, _, rfl, ⟨hl, h1, h2, hb, by simp, fun x hx i hi => ?_⟩⟩
    obtain rfl := Option.some.inj hx
    have := shc_get l i (by omega)
    exact ⟨h.cells (g := g) rfl _ _ this.1, h.cells (g := g) rfl _ _ this.2⟩

theorem own_below2 {w w' : World} {base n : Nat} {E : TypeId} {v : Value} {xs : List Value} (h : w.ownsRow base E 2 v n xs) (hb : Below w.heap.size w w') : w'.ownsRow base E 2 v n xs :=
  h.kept (grown_below hb none) (by cases hv : v.ownBlock <;> simp)

theorem infoSh : (Tryd.prog.info? 68).map (fun i => (i.zero, i.size, i.bytes)) = some (some (.agg #[.int .i64 0, .int .u64 0]), 2, 16) := by kernel_rfl
theorem infoZ : (Tryd.prog.info? 3).map (fun i => (i.zero, i.size, i.bytes)) = some (some (.int .i64 0), 1, 8) := by kernel_rfl
/-- What append has gathered reads as the ints that it gathered. -/
theorem RdI.own {w : World} {base n : Nat} {E : TypeId} {v : Value} {L : List Int} (h : w.ownsRow base E 1 v n (zns L)) (hb : ∀ x ∈ L, -9223372036854775808 ≤ x ∧ x ≤ 9223372036854775807) : ∃ a c, v = .slice a n c ∧ RdI w a n c L := by
  have hl : L.length = n := by have := h.1; rw [zns_len] at this; omega
  rcases h.2 with ⟨rfl, rfl⟩ | ⟨g, cap, cur, rfl, hb', hg, h1, h2, hs, ht⟩
  · exact ⟨none, 0, rfl, ⟨hl, Nat.le_refl _, Nat.zero_le _, hb, fun _ => rfl, by simp⟩⟩
  · refine ⟨_, _, rfl, ⟨hl, h1, h2, hb, by simp, fun x hx i hi => ?_⟩⟩
    obtain rfl := Option.some.inj hx
    rw [Addr.add_lit, Nat.zero_add]
    exact zns_at h hi
/-- How many numbers there are besides: by the loop. -/
def nd2 (t : Int) : Nat → Int
  | 0 => -1
  | k + 1 => nd2 t k + (t - k + 1)
/-- The secret, and what is drawn behind it. -/
def dn (s : Int) (ds : List Int) (z : Int) : Int := if z < 0 then s else ds.getD z.toNat 0
/-- Number A(i, j). -/
def A2 (s : Int) (ds : List Int) (t i j : Nat) : Int := nm (if i ≤ j then dn s ds (nd2 t i + ((j : Int) - i)) else dn s ds (nd2 t j + ((i : Int) - j)))
theorem A2_sym (s : Int) (ds : List Int) (t i j : Nat) : A2 s ds t i j = A2 s ds t j i := by
  unfold A2
  by_cases h : i ≤ j
  · by_cases h2 : j ≤ i
    · obtain rfl : i = j := by omega
      rfl
    · rw [if_pos h, if_neg h2]
  · rw [if_neg h, if_pos (by omega)]
theorem A2_zero (s : Int) (ds : List Int) (t : Nat) : A2 s ds t 0 0 = nm s := by
  unfold A2 dn nd2; rfl
theorem pos_bd : ∀ t, t < 5 → ∀ j, j ≤ 4 → ∀ i, i ≤ j → j ≤ t → -1 ≤ nd2 (t : Nat) i + ((j : Int) - i) ∧ nd2 (t : Nat) i + ((j : Int) - i) < (((t + 1) * (t + 2) / 2 - 1 : Nat) : Int) := by
  intro t ht j hj i hi hjt
  have h : t = 0 ∨ t = 1 ∨ t = 2 ∨ t = 3 ∨ t = 4 := by omega
  have hj2 : j = 0 ∨ j = 1 ∨ j = 2 ∨ j = 3 ∨ j = 4 := by omega
  have hi2 : i = 0 ∨ i = 1 ∨ i = 2 ∨ i = 3 ∨ i = 4 := by omega
  rcases h with rfl | rfl | rfl | rfl | rfl <;> rcases hj2 with rfl | rfl | rfl | rfl | rfl <;> first | (exfalso; omega) | (rcases hi2 with rfl | rfl | rfl | rfl | rfl <;> first | (exfalso; omega) | decide)
/-- Two such lists, apart. -/
structure Two (w : World) (B : Nat) (E : TypeId) (v1 v2 : Value) (l1 l2 : List (Int × Int)) : Prop where
  o1 : w.ownsRow B E 2 v1 l1.length (shc l1)
  o2 : w.ownsRow B E 2 v2 l2.length (shc l2)
  ne : ∀ g, v1.ownBlock = some g → v2.ownBlock ≠ some g
theorem Two.add {w w' : World} {B : Nat} {E : TypeId} {v1 v2 v' : Value} {l1 l2 : List (Int × Int)} {p : Int × Int} (h : Two w B E v1 v2 l1 l2) (ho : w'.ownsRow B E 2 v' (l1.length + 1) (shc (l1 ++ [p]))) (hg : w.grownBy w' v1.ownBlock) (hat : v'.ownBlock = v1.ownBlock ∨ ∃ k, v'.ownBlock = some k ∧ w.heap.size ≤ k) : Two w' B E v' v2 (l1 ++ [p]) l2 := by
  refine ⟨by rw [List.length_append, List.length_singleton]; exact ho, h.o2.kept hg ?_, fun g h1 h2 => ?_⟩
  · cases hv : v1.ownBlock with
    | none => cases hv2 : v2.ownBlock <;> simp
    | some g => exact .inr (h.ne g hv)
  · rcases hat with hat | ⟨k, hk, hle⟩
    · exact h.ne g (by rw [← hat]; exact h1) h2
    · have h3 := (h.o2.lt g h2).2
      rw [hk] at h1
      have := Option.some.inj h1
      omega
theorem Two.below {w w' : World} {B : Nat} {E : TypeId} {v1 v2 : Value} {l1 l2 : List (Int × Int)} (h : Two w B E v1 v2 l1 l2) (hb : Below w.heap.size w w') : Two w' B E v1 v2 l1 l2 := ⟨own_below2 h.o1 hb, own_below2 h.o2 hb, h.ne⟩

/-- Lists of other elements lie elsewhere. -/
theorem own_apart {w : World} {B1 B2 n1 n2 z1 z2 : Nat} {E1 E2 : TypeId} {v1 v2 : Value} {xs ys : List Value} (h1 : w.ownsRow B1 E1 z1 v1 n1 xs) (h2 : w.ownsRow B2 E2 z2 v2 n2 ys) (hE : E1 ≠ E2) : v2.ownBlock = none ∨ v2.ownBlock ≠ v1.ownBlock := by
  rcases h2.2 with ⟨rfl, _⟩ | ⟨g, cap, cur, rfl, _, hg, _⟩
  · exact .inl rfl
  · right
    rcases h1.2 with ⟨rfl, _⟩ | ⟨g', cap', cur', rfl, _, hg', _⟩
    · simp [Value.ownBlock]
    · intro e
      simp [Value.ownBlock] at e
      subst e
      rw [hg] at hg'
      simp only [Option.some.injEq, Obj.cells.injEq] at hg'
      exact hE hg'.2.1.symm
/-- A slice of two-cell elements that the call itself gathers, and one more, with what it leaves alone. -/
theorem wpList_app2 {P : Program} {T E : TypeId} {z : Value} {by_ : Nat} (hT : P.underlying T = some (.slice E)) (info : (P.info? E).map (fun i => (i.zero, i.size, i.bytes)) = some (some z, 2, by_)) (hz : z.cells.size = 2) (hby : by_ ≤ 100)
    (w : World) {ops : Array Oper} {rest : List Oper} {o : Oper} {a : Act} {Q : Exit → Act → World → Prop} (hgd : o.guard = none) (s x : Operand)
    (ho : o.op = .call { callee := .builtin .append, args := #[s, x], argTypes := #[T, T] })
    (base : Nat) (v : Value) (n : Nat) (xs : List Value) (hs : a.eval s = v) (hown : w.ownsRow base E 2 v n xs) (p q : Value) (hp : p.oneCell' = true) (hq : q.oneCell' = true) (hx : a.eval x = .slice (some ⟨w.heap.size, 0, none⟩) 1 1)
    (hn : n ≤ 1000000) (hbase : base ≤ w.heap.size)
    (h : ∀ v' w', w'.ownsRow base E 2 v' (n + 1) (xs ++ [p, q]) → w.grownBy w' v.ownBlock → (v'.ownBlock = v.ownBlock ∨ ∃ k, v'.ownBlock = some k ∧ w.heap.size ≤ k) → wpList P ops Q rest (a.put o.dst v') w') : wpList P ops Q (o :: rest) a (w.alloc (.cells #[p, q] E)) := by
  obtain ⟨i0, hi, hz0, hz1, hz2⟩ := info_parts info
  refine wpList_append_own_at _ hgd s x T ho base E i0 z 2 by_ hT hi hz0 hz1 hz2 hz (by decide) v n _ hs (hown.alloc _) ⟨w.heap.size, 0, none⟩ 1 1 [p, q] hx rfl ?_ ?_ (by unfold maxLen; omega) ?_ (by simp; omega) ?_
  · intro j u hj
    match j, hj with
    | 0, hj => simp at hj; subst hj; rw [Addr.add_lit]; exact cell_alloc0 _ _ _ _
    | 1, hj => simp at hj; subst hj; rw [Addr.add_lit]; exact cell_alloc1 _ _ _ _
  · intro u hu; simp at hu; rcases hu with rfl | rfl <;> assumption
  · have : (n + 1) * by_ ≤ 1000001 * 100 := Nat.mul_le_mul (by omega) hby
    omega
  · intro v' w' hown' hgrow _ hat
    refine h v' w' hown' ⟨hgrow.os, hgrow.tape, hgrow.output, ?_, fun k hk hne => ?_⟩ ?_
    · have := hgrow.size; simp at this; omega
    · rw [hgrow.block k (by simp; omega) hne]; exact Below.heap_alloc _ _ _ hk
    · rcases hat with hat | hat
      · exact .inl hat
      · exact .inr ⟨_, hat, by simp⟩

/-- The cells of rows. -/
def pvc (l : List (Int × Value)) : List Value := l.flatMap fun p => [.int .i64 p.1, p.2]
theorem pvc_snoc (l : List (Int × Value)) (x : Int) (v : Value) : pvc (l ++ [(x, v)]) = pvc l ++ [.int .i64 x, v] := by simp [pvc]
theorem pvc_get : ∀ (l : List (Int × Value)) (i : Nat), i < l.length → (pvc l)[i * 2]? = some (.int .i64 (l.getD i (0, .slice none 0 0)).1) ∧ (pvc l)[i * 2 + 1]? = some (l.getD i (0, .slice none 0 0)).2
  | [], i, h => by simp at h
  | p :: l, 0, _ => ⟨rfl, rfl⟩
  | p :: l, i + 1, h => by
    have := pvc_get l i (by simpa using h)
    have e1 : (i + 1) * 2 = i * 2 + 1 + 1 := by omega
    rw [e1]
    exact this

/-- A list of rows that the call gathers, each row the call's own. -/
structure LsW (w : World) (B : Nat) (v : Value) (L : List (Int × Value)) (l : List (Int × List Int)) : Prop where
  own : w.ownsRow B 80 2 v l.length (pvc L)
  len : L.length = l.length
  at_ : ∀ i, i < l.length → (L.getD i (0, .slice none 0 0)).1 = ta l i
  row : ∀ i, i < l.length → w.ownsRow B 34 1 (L.getD i (0, .slice none 0 0)).2 (tc l i).length ((tc l i).map (Value.int .u64))
  inj : ∀ i j, i < j → j < l.length → (L.getD i (0, .slice none 0 0)).2.ownBlock = none ∨ (L.getD i (0, .slice none 0 0)).2.ownBlock ≠ (L.getD j (0, .slice none 0 0)).2.ownBlock
theorem LsW.below {w w' : World} {B : Nat} {v : Value} {L : List (Int × Value)} {l : List (Int × List Int)} (h : LsW w B v L l) (hb : Below w.heap.size w w') : LsW w' B v L l :=
  ⟨own_below2 h.own hb, h.len, h.at_, fun i hi => own_below (h.row i hi) hb, h.inj⟩
/-- Rows, when another list of numbers grows. -/
theorem LsW.grown {w w' : World} {B : Nat} {v : Value} {L : List (Int × Value)} {l : List (Int × List Int)} {r : Option Nat} (h : LsW w B v L l) (hg : w.grownBy w' r) (h1 : v.ownBlock = none ∨ v.ownBlock ≠ r) (h2 : ∀ i, i < l.length → (L.getD i (0, .slice none 0 0)).2.ownBlock = none ∨ (L.getD i (0, .slice none 0 0)).2.ownBlock ≠ r) : LsW w' B v L l :=
  ⟨h.own.kept hg h1, h.len, h.at_, fun i hi => (h.row i hi).kept hg (h2 i hi), h.inj⟩
/-- One row more. -/
theorem LsW.add {w w' : World} {B : Nat} {v v' u : Value} {L : List (Int × Value)} {l : List (Int × List Int)} {x : Int} {row : List Int} (h : LsW w B v L l) (hr : w.ownsRow B 34 1 u row.length (row.map (Value.int .u64)))
    (hnew : ∀ i, i < l.length → (L.getD i (0, .slice none 0 0)).2.ownBlock = none ∨ (L.getD i (0, .slice none 0 0)).2.ownBlock ≠ u.ownBlock)
    (ho : w'.ownsRow B 80 2 v' (l.length + 1) (pvc L ++ [.int .i64 x, u])) (hg : w.grownBy w' v.ownBlock) : LsW w' B v' (L ++ [(x, u)]) (l ++ [(x, row)]) := by
  have hl := h.len
  have gl : ∀ i, i < l.length → (l ++ [(x, row)]).getD i (0, []) = l.getD i (0, []) := fun i hi => by simp [List.getElem?_append_left hi]
  have gL : ∀ i, i < l.length → (L ++ [(x, u)]).getD i (0, .slice none 0 0) = L.getD i (0, .slice none 0 0) := fun i hi => by simp [List.getElem?_append_left (show i < L.length by omega)]
  have gl' : (l ++ [(x, row)]).getD l.length (0, []) = (x, row) := by simp
  have gL' : (L ++ [(x, u)]).getD l.length (0, .slice none 0 0) = (x, u) := by rw [← hl]; simp
  have hE : (80 : TypeId) ≠ 34 := by decide
  refine ⟨by rw [pvc_snoc]; simpa using ho, by simp [hl], fun i hi => ?_, fun i hi => ?_, fun i j hij hj => ?_⟩
  · have hi2 : i < l.length + 1 := by simpa using hi
    unfold ta
    by_cases e : i = l.length
    · subst e; rw [gl', gL']
    · rw [gl i (by omega), gL i (by omega)]; exact h.at_ i (by omega)
  · have hi2 : i < l.length + 1 := by simpa using hi
    unfold tc
    by_cases e : i = l.length
    · subst e; rw [gl', gL']; exact hr.kept hg (own_apart h.own hr hE)
    · rw [gl i (by omega), gL i (by omega)]; exact (h.row i (by omega)).kept hg (own_apart h.own (h.row i (by omega)) hE)
  · have hj2 : j < l.length + 1 := by simpa using hj
    by_cases e : j = l.length
    · subst e; rw [gL', gL i hij]; exact hnew i hij
    · rw [gL i (by omega), gL j (by omega)]; exact h.inj i j hij (by omega)
/-- What is made later lies elsewhere. -/
theorem LsW.new {w w' : World} {B : Nat} {v u : Value} {L : List (Int × Value)} {l : List (Int × List Int)} {E : TypeId} {n z B2 : Nat} {xs : List Value} (h : LsW w B v L l) (hB : w.heap.size ≤ B2) (hu : w'.ownsRow B2 E z u n xs) : ∀ i, i < l.length → (L.getD i (0, .slice none 0 0)).2.ownBlock = none ∨ (L.getD i (0, .slice none 0 0)).2.ownBlock ≠ u.ownBlock := fun i hi => by
  cases hv : (L.getD i (0, .slice none 0 0)).2.ownBlock with
  | none => exact .inl rfl
  | some g =>
    right
    intro e
    have h1 := ((h.row i hi).lt g hv).2
    have h2 := (hu.lt g e.symm).1
    omega
/-- It reads as its rows. -/
theorem LsW.rdW {w : World} {B : Nat} {v : Value} {L : List (Int × Value)} {l : List (Int × List Int)} {n : Nat} (h : LsW w B v L l) (hn : l.length = n) (hb : ∀ i, i < n → -9223372036854775808 ≤ ta l i ∧ ta l i ≤ 9223372036854775807) (hc : ∀ i, i < n → ∀ x ∈ tc l i, 0 ≤ x ∧ x ≤ 18446744073709551615) : ∃ a c, v = .slice a n c ∧ RdW w a n c l := by
  subst hn
  rcases h.own.2 with ⟨rfl, e0⟩ | ⟨g, cap, cur, rfl, hb', hg, h1, h2, hs, ht⟩
  · exact ⟨none, 0, by rw [e0], rfl, by omega, Nat.zero_le _, fun _ => rfl, hb, by simp⟩
  · refine ⟨_, _, rfl, rfl, h1, h2, by simp, hb, fun x hx i hi => ?_⟩
    obtain rfl := Option.some.inj hx
    have hl := h.len
    have hp := pvc_get L i (by omega)
    have e0 := h.own.cells (g := g) rfl _ _ hp.1
    have e1 := h.own.cells (g := g) rfl _ _ hp.2
    obtain ⟨ai, ci, ev, hr, _⟩ := Rd.own (h.row i hi) (hc i hi)
    rw [h.at_ i hi] at e0
    rw [ev] at e1
    exact ⟨e0, ai, ci, e1, hr⟩
theorem infoRow : (Tryd.prog.info? 80).map (fun i => (i.zero, i.size, i.bytes)) = some (some (.agg #[.int .i64 0, .slice none 0 0]), 2, 32) := by kernel_rfl

/-- A row that is being filled: its box. -/
def Box (w : World) (g : Nat) (x : Int) (v : Value) : Prop := w.heap[g]? = some (.cells #[.int .i64 x, v] 80 (0, 0))
theorem Box.lt {w : World} {g : Nat} {x : Int} {v : Value} (h : Box w g x v) : g < w.heap.size := (Array.getElem?_eq_some_iff.1 h).1
theorem Box.cells {w : World} {g : Nat} {x : Int} {v : Value} (h : Box w g x v) : w.cell? ⟨g, 0, none⟩ = some (.int .i64 x) ∧ w.cell? ⟨g, 1, none⟩ = some v := by
  unfold Box at h
  rw [cell_of_row w g 0 _ _ (0, 0) h, cell_of_row w g 1 _ _ (0, 0) h]
  exact ⟨rfl, rfl⟩
theorem Box.frozen {w : World} {g : Nat} {x : Int} {v : Value} (h : Box w g x v) (i : Nat) : w.frozen? ⟨g, i, none⟩ = false := frozen_of_row w g i _ _ h
theorem Box.set {w : World} {g : Nat} {x : Int} {v : Value} (h : Box w g x v) (u : Value) : Box (w.setCell ⟨g, 1, none⟩ u) g x u := by
  have := heap_setCell_same w g 1 _ _ u h
  unfold Box
  rw [this]
  rfl
theorem Box.kept {w w' : World} {g : Nat} {x : Int} {v : Value} {r : Option Nat} (h : Box w g x v) (hg : w.grownBy w' r) (hr : r ≠ some g) : Box w' g x v := by
  unfold Box; rw [hg.block g h.lt (fun e => hr e.symm)]; exact h
theorem Box.new (w : World) (x : Int) (v : Value) : Box (w.alloc (.cells #[.int .i64 x, v] 80)) w.heap.size x v := heap_alloc_new w _
theorem own_base {w : World} {B B' n : Nat} {E : TypeId} {v : Value} {xs : List Value} (h : w.ownsRow B E 1 v n xs) (hB : B' ≤ B) : w.ownsRow B' E 1 v n xs := by
  rcases h.2 with h' | ⟨g, cap, cur, e1, e2, e3⟩
  · exact ⟨h.1, Or.inl h'⟩
  · exact ⟨h.1, Or.inr ⟨g, cap, cur, e1, by omega, e3⟩⟩
/-- Column j of F: a polynomial in x. -/
def colA (s : Int) (ds : List Int) (t j : Nat) : List Int := (List.range (t + 1)).map fun i => A2 s ds t i j
theorem colA_len (s : Int) (ds : List Int) (t j : Nat) : (colA s ds t j).length = t + 1 := by simp [colA]
theorem colA_getD (s : Int) (ds : List Int) (t j : Nat) {i : Nat} (h : i ≤ t) : (colA s ds t j).getD i 0 = A2 s ds t i j := by simp [colA, show i < t + 1 by omega]
/-- The first k numbers of the row of the party x. -/
def rowK (s : Int) (ds : List Int) (t : Nat) (x : Int) (k : Nat) : List Int := (List.range k).map fun j => nm (ev (colA s ds t j) x)
theorem rowK_len (s : Int) (ds : List Int) (t : Nat) (x : Int) (k : Nat) : (rowK s ds t x k).length = k := by simp [rowK]
theorem rowK_getD (s : Int) (ds : List Int) (t : Nat) (x : Int) {k j : Nat} (h : j < k) : (rowK s ds t x k).getD j 0 = nm (ev (colA s ds t j) x) := by simp [rowK, h]
theorem rowK_bd (s : Int) (ds : List Int) (t : Nat) (x : Int) (k : Nat) : ∀ z ∈ rowK s ds t x k, 0 ≤ z ∧ z ≤ 2147483646 := by
  intro z hz
  obtain ⟨i, _, rfl⟩ := List.mem_map.1 hz
  exact nm_bd _
/-- The rows of the first k parties. -/
def dealA (s : Int) (ds : List Int) (t k : Nat) : List (Int × List Int) := (List.range k).map fun r : Nat => ((r : Int) + 1, rowK s ds t ((r : Int) + 1) (t + 1))
theorem dealA_len (s : Int) (ds : List Int) (t k : Nat) : (dealA s ds t k).length = k := by simp [dealA]
theorem dealA_getD (s : Int) (ds : List Int) (t : Nat) {k r : Nat} (h : r < k) : (dealA s ds t k).getD r (0, []) = ((r : Int) + 1, rowK s ds t ((r : Int) + 1) (t + 1)) := by simp [dealA, h]
end
section
open Go.RowKit
theorem Rd.take {w : World} {a : Option Addr} {n c : Nat} {xs : List Int} (h : Rd w a n c xs) {k : Nat} (hk : k ≤ n) : Rd w a k c (xs.take k) := by
  refine ⟨by have := h.len; simp; omega, by have := h.cap; omega, h.max, fun x hx => h.bd x (List.mem_of_mem_take hx), h.nil, fun x hx i hi => ?_⟩
  rw [h.cell x hx i (by omega)]
  congr 2
  simp [hi]
end
section
open Crm Go.RowKit
/-- Row g holds the marks M. -/
def BlkB (w : World) (g : Nat) (M : List Bool) : Prop := w.heap[g]? = some (.cells (M.map Value.bool).toArray 151 (0, 0))
theorem BlkB.lt {w : World} {g : Nat} {M : List Bool} (h : BlkB w g M) : g < w.heap.size := (Array.getElem?_eq_some_iff.1 h).1
theorem BlkB.cell {w : World} {g : Nat} {M : List Bool} (h : BlkB w g M) {i : Nat} (hi : i < M.length) : w.cell? ⟨g, i, none⟩ = some (.bool (M.getD i false)) := by
  rw [cell_of_row w g i _ _ (0, 0) h]
  simp [List.getElem?_eq_getElem hi]
theorem BlkB.frozen {w : World} {g : Nat} {M : List Bool} (h : BlkB w g M) (i : Nat) : w.frozen? ⟨g, i, none⟩ = false := frozen_of_row w g i _ _ h
theorem BlkB.set {w : World} {g : Nat} {M : List Bool} (h : BlkB w g M) (i : Nat) (v : Bool) : BlkB (w.setCell ⟨g, i, none⟩ (.bool v)) g (M.set i v) := by
  have := heap_setCell_same w g i _ _ (.bool v) h
  unfold BlkB
  rw [this]
  simp [List.map_set]
theorem BlkB.below {w w' : World} {B g : Nat} {M : List Bool} (h : BlkB w g M) (hb : Below B w w') (hg : g < B) : BlkB w' g M := by
  unfold BlkB; rw [hb.block g hg]; exact h

theorem cJoinO (g : Nat) (x : Int) (w : World) (h : x < 1 ∨ 9 < x) :
    Calls Tryd.prog 96 #[.pointer (some ⟨g, 0, none⟩), .int .i64 x] w fun e w' => e = .returned (.bool false) ∧ w' = w := by
  by_cases h1 : x < 1
  · clear h
    go_enter Tryd.func96, Tryd.ntmps96
    go_wp2
    go_ret
    exact ⟨rfl, rfl⟩
  · have h2 : 9 < x := by omega
    clear h
    go_enter Tryd.func96, Tryd.ntmps96
    go_wp2
    go_ret
    exact ⟨rfl, rfl⟩
theorem cJoinN (g k : Nat) (M : List Bool) (w : World) (h : BlkB w g M) (hM : M.length = 10) (h1 : 1 ≤ k) (h9 : k ≤ 9) (hk : M.getD k false = true) :
    Calls Tryd.prog 96 #[.pointer (some ⟨g, 0, none⟩), .int .i64 k] w fun e w' => e = .returned (.bool false) ∧ w' = w := by
  have hc := h.cell (i := k) (by omega)
  rw [hk] at hc
  have hlt := h.lt
  go_enter Tryd.func96, Tryd.ntmps96
  go_wp2
  go_ret
  exact ⟨rfl, rfl⟩
theorem cJoinY (g k : Nat) (M : List Bool) (w : World) (h : BlkB w g M) (hM : M.length = 10) (h1 : 1 ≤ k) (h9 : k ≤ 9) (hk : M.getD k false = false) :
    Calls Tryd.prog 96 #[.pointer (some ⟨g, 0, none⟩), .int .i64 k] w fun e w' => e = .returned (.bool true) ∧ w' = w.setCell ⟨g, k, none⟩ (.bool true) := by
  have hc := h.cell (i := k) (by omega)
  rw [hk] at hc
  have hlt := h.lt
  have hfz := h.frozen k
  go_enter Tryd.func96, Tryd.ntmps96
  go_wp2
  go_ret
  exact ⟨rfl, rfl⟩
/-- M marks who has come. -/
structure Mk (f : Nat → Int) (k : Nat) (M : List Bool) : Prop where
  len : M.length = 10
  mark : ∀ p : Nat, 1 ≤ p → p ≤ 9 → (M.getD p false = true ↔ ∃ j, j < k ∧ f j = (p : Int))
  dis : dis f k
theorem mk_start (f : Nat → Int) : Mk f 0 (List.replicate 10 false) := by
  refine ⟨rfl, fun p _ h9 => ?_, dis_zero f⟩
  have : (List.replicate 10 false).getD p false = false := by
    rw [List.getD_eq_getElem?_getD, List.getElem?_replicate]; split <;> rfl
  rw [this]
  constructor
  · intro h; cases h
  · rintro ⟨j, hj, _⟩; omega
theorem mk_step {f : Nat → Int} {k : Nat} {M : List Bool} {p : Nat} (h : Mk f k M) (hp : f k = (p : Int)) (h1 : 1 ≤ p) (h9 : p ≤ 9) (hm : M.getD p false = false) : Mk f (k + 1) (M.set p true) := by
  have hno : ∀ j, j < k → f j ≠ (p : Int) := fun j hj e => by
    have := (h.mark p h1 h9).2 ⟨j, hj, e⟩
    rw [hm] at this; cases this
  refine ⟨by rw [List.length_set]; exact h.len, fun q q1 q9 => ?_, dis_succ h.dis hp (by omega) (by omega) hno⟩
  have hl := h.len
  by_cases e : q = p
  · subst e
    have : (M.set q true).getD q false = true := by simp [show q < M.length by omega]
    rw [this]
    exact ⟨fun _ => ⟨k, by omega, hp⟩, fun _ => rfl⟩
  · have : (M.set p true).getD q false = M.getD q false := by
      simp [show ¬ p = q from fun e' => e e'.symm]
    rw [this, h.mark q q1 q9]
    constructor
    · rintro ⟨j, hj, e⟩; exact ⟨j, by omega, e⟩
    · rintro ⟨j, hj, e'⟩
      by_cases ej : j = k
      · subst ej; rw [hp] at e'; omega
      · exact ⟨j, by omega, e'⟩
theorem mk_twice {f : Nat → Int} {k n : Nat} {M : List Bool} {p : Nat} (h : Mk f k M) (hk : k < n) (hp : f k = (p : Int)) (h1 : 1 ≤ p) (h9 : p ≤ 9) (hm : M.getD p false = true) : ¬ Go.Proofs.YtljlioglpaogdagDoor.dis f n := fun hd => by
  obtain ⟨j, hj, e⟩ := (h.mark p h1 h9).1 hm
  exact (hd k hk).2 j hj (by rw [e, hp])
theorem mk_out {f : Nat → Int} {k n : Nat} {x : Int} (hk : k < n) (hx : f k = x) (h : x < 1 ∨ 9 < x) : ¬ Go.Proofs.YtljlioglpaogdagDoor.dis f n := fun hd => by
  have := (hd k hk).1
  omega

theorem cCheckA (a : Option Addr) (n c : Nat) (t : Int) (w : World) (h : t < 0 ∨ 4 < t) :
    Calls Tryd.prog 71 #[.int .i64 t, .slice a n c] w fun e w' => e = .returned (.int .i64 1) ∧ w' = w := by
  by_cases h1 : t < 0
  · clear h
    go_enter Tryd.func71, Tryd.ntmps71
    go_wp2
    go_ret
    exact ⟨rfl, rfl⟩
  · have h2 : 4 < t := by omega
    clear h
    go_enter Tryd.func71, Tryd.ntmps71
    go_wp2
    go_ret
    exact ⟨rfl, rfl⟩

theorem cCheckB (a : Option Addr) (n c : Nat) (l : List (Int × Int)) (t : Int) (w : World) (h : RdS w a n c l) (ht0 : 0 ≤ t) (ht4 : t ≤ 4) :
    Calls Tryd.prog 71 #[.int .i64 t, .slice a n c] w fun e w' => ∃ r, e = .returned (.int .i64 r) ∧ She l n t r ∧ Below w.heap.size w w' := by
  have hcap := h.cap
  have hmax := h.max
  unfold maxLen at hmax
  go_enter Tryd.func71, Tryd.ntmps71
  go_wp2
  go_loopw [16] (fun i wr => ∃ (k : Nat) (M : List Bool), k ≤ n ∧ i = .int .i64 k ∧ Hid (Mk (fa l) k M) ∧ BlkB wr w.heap.size M ∧ Below w.heap.size w wr) (fun i _ => n - (intOf i).toNat)
  case atStart => exact ⟨0, _, Nat.zero_le _, rfl, mk_start _, heap_alloc_new w _, (Below.refl _ _).alloc (Nat.le_refl _) _⟩
  case round =>
    obtain ⟨k, M, hk, rfl, HM, hB, hbel⟩ := hrel
    have hs1 := hbel.size
    have hlM := HM.out.len
    by_cases hlt : k < n
    · obtain ⟨b, o, x, y, rfl, hbb, HX, HY, hx0, hx1, hy0, hy1, hcx, hcy⟩ := (h.below hbel).one hlt
      have hcA0 := cell_alloc0 wr (.int .i64 x) (.int .u64 y) 68
      have hB2 : BlkB (wr.alloc (.cells #[.int .i64 x, .int .u64 y] 68)) w.heap.size M := hB.below ((Below.refl _ _).alloc (Nat.le_refl _) _) hB.lt
      have hbel2 := hbel.alloc hs1 (.cells #[.int .i64 x, .int .u64 y] 68)
      go_wp2_with fail
      generalize wr.alloc (.cells #[.int .i64 x, .int .u64 y] 68) = W at *
      clear hcx hcy hB hbel
      by_cases hx : x < 1 ∨ 9 < x
      · have HN : Hid (She l n t 5) := Or.inr (Or.inl ⟨⟨ht0, ht4⟩, mk_out hlt HX.out hx, rfl⟩)
        refine (cJoinO _ _ _ hx).mono ?_
        rintro e w' ⟨rfl, hw⟩
        have hw := hw.symm
        subst hw
        clear hx
        go_wp2
        go_ret
        exact ⟨5, rfl, HN.out, hbel2⟩
      · obtain ⟨p, rfl⟩ : ∃ p : Nat, x = p := ⟨x.toNat, by omega⟩
        cases hm : M.getD p false with
        | true =>
          have HN : Hid (She l n t 5) := Or.inr (Or.inl ⟨⟨ht0, ht4⟩, mk_twice HM.out hlt HX.out (by omega) (by omega) hm, rfl⟩)
          refine (cJoinN _ _ _ _ hB2 hlM (by omega) (by omega) hm).mono ?_
          rintro e w' ⟨rfl, hw⟩
          have hw := hw.symm
          subst hw
          clear hm
          go_wp2
          go_ret
          exact ⟨5, rfl, HN.out, hbel2⟩
        | false =>
          have HM2 : Hid (Mk (fa l) (k + 1) (M.set p true)) := mk_step HM.out HX.out (by omega) (by omega) hm
          refine (cJoinY _ _ _ _ hB2 hlM (by omega) (by omega) hm).mono ?_
          rintro e w' ⟨rfl, rfl⟩
          have hB3 := hB2.set p true
          have hbel3 := below_grown hbel2 (grown_set W w.heap.size p (.bool true)) (Nat.le_refl _)
          generalize W.setCell ⟨w.heap.size, p, none⟩ (.bool true) = W3 at *
          clear hm
          go_wp2
          go_roundw
          case rel => exact ⟨k + 1, _, by omega, by go_num, HM2, hB3, hbel3⟩
          case measure => simp [intOf]; omega
    · have hkn : k = n := by omega
      subst hkn
      by_cases hkt : (k : Int) ≤ t
      · have HN : Hid (She l k t 4) := Or.inr (Or.inr (Or.inl ⟨⟨ht0, ht4⟩, HM.out.dis, hkt, rfl⟩))
        go_wp2
        go_ret
        exact ⟨4, rfl, HN.out, hbel⟩
      · have HN : Hid (She l k t 0) := Or.inr (Or.inr (Or.inr ⟨⟨ht0, ht4⟩, HM.out.dis, by omega, rfl⟩))
        go_wp2
        go_ret
        exact ⟨0, rfl, HN.out, hbel⟩

theorem cCheckS (a : Option Addr) (n c : Nat) (l : List (Int × Int)) (t : Int) (w : World) (h : RdS w a n c l) :
    Calls Tryd.prog 71 #[.int .i64 t, .slice a n c] w fun e w' => ∃ r, e = .returned (.int .i64 r) ∧ She l n t r ∧ Below w.heap.size w w' := by
  by_cases ht : t < 0 ∨ 4 < t
  · refine (cCheckA _ _ _ _ _ ht).mono ?_
    rintro e w' ⟨rfl, rfl⟩
    exact ⟨1, rfl, Or.inl ⟨ht, rfl⟩, Below.refl _ _⟩
  · exact cCheckB _ _ _ _ _ _ h (by omega) (by omega)
end
end Go.Proofs.YtljlioglpaogdagDoor
