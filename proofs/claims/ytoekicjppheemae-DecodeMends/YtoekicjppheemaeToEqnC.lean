/- Slices of ints that are read; shares that a call gathers. · decode.equation. -/
import Derived.Test.YtoekicjppheemaeToOwnC
import Derived.Test.YtoekicjppheemaeToPolyM2
import Derived.Test.YtoekicjppheemaeToBwM
import Derived.Test.YtoekicjppheemaeToTrimC
import Derived.Deep.AppendLies
import Derived.Deep.RegionHeld3
import Derived.Deep.RegionLaw
namespace Go.Proofs.Ytoekicjppheemae
open Go.RowKit Crm

/-- A slice of ints that is read. -/
structure RdI (w : World) (a : Option Addr) (n c : Nat) (xs : List Int) : Prop where
  len : xs.length = n
  cap : n ≤ c
  max : c ≤ maxLen
  bd : ∀ x ∈ xs, -9223372036854775808 ≤ x ∧ x ≤ 9223372036854775807
  nil : a = none → c = 0
  cell : ∀ x, a = some x → ∀ i, i < n → w.cell? (x.add i) = some (.int .i64 (xs.getD i 0))
theorem RdI.one {w : World} {a : Option Addr} {n c : Nat} {xs : List Int} (h : RdI w a n c xs) {k : Nat} (hk : k < n) :
    ∃ b o x, a = some ⟨b, o, none⟩ ∧ b < w.heap.size ∧ Hid (xs.getD k 0 = x) ∧ -9223372036854775808 ≤ x ∧ x ≤ 9223372036854775807 ∧ w.cell? ⟨b, o + k, none⟩ = some (.int .i64 x) := by
  cases ha : a with
  | none => have := h.nil ha; have := h.cap; omega
  | some x =>
    have h0 := h.cell x ha k hk
    have hs : x.spot = none := by
      have := spot_none (h.cell x ha 0 (by omega))
      unfold Addr.add at this
      split at this <;> simp_all
    obtain ⟨b, o, s⟩ := x
    simp only at hs
    subst hs
    rw [Addr.add_lit] at h0
    have hb := h.bd (xs.getD k 0) (getD_mem (by rw [h.len]; exact hk))
    exact ⟨b, o, _, rfl, World.block_lt_of_cell? w _ h0, rfl, hb.1, hb.2, h0⟩
theorem RdI.below {w w' : World} {a : Option Addr} {n c : Nat} {xs : List Int} (h : RdI w a n c xs) (hb : Below w.heap.size w w') : RdI w' a n c xs := by
  refine ⟨h.len, h.cap, h.max, h.bd, h.nil, fun x hx i hi => ?_⟩
  have := h.cell x hx i hi
  rw [hb.cell (World.block_lt_of_cell? w _ this)]
  exact this
theorem RdI.drewN {w : World} {a : Option Addr} {n c : Nat} {xs : List Int} (h : RdI w a n c xs) (q : Nat) : RdI (w.drewN q) a n c xs := ⟨h.len, h.cap, h.max, h.bd, h.nil, h.cell⟩
theorem RdI.take {w : World} {a : Option Addr} {n c : Nat} {xs : List Int} (h : RdI w a n c xs) {k : Nat} (hk : k ≤ n) : RdI w a k c (xs.take k) := by
  refine ⟨by have := h.len; simp; omega, by have := h.cap; omega, h.max, fun x hx => h.bd x (List.mem_of_mem_take hx), h.nil, fun x hx i hi => ?_⟩
  rw [h.cell x hx i (by omega)]
  congr 2
  simp [hi]

/-- The cells of shares. -/
def shc (l : List (Int × Int)) : List Value := l.flatMap fun p => [.int .i64 p.1, .int .u64 p.2]
theorem shc_snoc (l : List (Int × Int)) (p : Int × Int) : shc (l ++ [p]) = shc l ++ [.int .i64 p.1, .int .u64 p.2] := by simp [shc]
theorem shc_get : ∀ (l : List (Int × Int)) (i : Nat), i < l.length → (shc l)[i * 2]? = some (.int .i64 (l.getD i (0, 0)).1) ∧ (shc l)[i * 2 + 1]? = some (.int .u64 (l.getD i (0, 0)).2)
  | [], i, h => by simp at h
  | p :: l, 0, _ => ⟨rfl, rfl⟩
  | p :: l, i + 1, h => by
    have := shc_get l i (by simpa using h)
    have e1 : (i + 1) * 2 = i * 2 + 1 + 1 := by omega
    rw [e1]
    exact this

/-- A slice of shares that the call itself gathers, and one share more. -/
theorem wpList_appS {P : Program} {T E : TypeId} (hT : P.underlying T = some (.slice E)) (info : (P.info? E).map (fun i => (i.zero, i.size, i.bytes)) = some (some (.agg #[.int .i64 0, .int .u64 0]), 2, 16))
    (w : World) {ops : Array Oper} {rest : List Oper} {o : Oper} {a : Act} {Q : Exit → Act → World → Prop} (hgd : o.guard = none) (s x : Operand)
    (ho : o.op = .call { callee := .builtin .append, args := #[s, x], argTypes := #[T, T] })
    (base : Nat) (v : Value) (n : Nat) (l : List (Int × Int)) (hs : a.eval s = v) (hown : w.ownsRow base E 2 v n (shc l)) (p q : Int) (hx : a.eval x = .slice (some ⟨w.heap.size, 0, none⟩) 1 1)
    (hn : n ≤ 1000000) (hbase : base ≤ w.heap.size)
    (h : ∀ v' w', w'.ownsRow base E 2 v' (n + 1) (shc (l ++ [(p, q)])) → Below base w w' → wpList P ops Q rest (a.put o.dst v') w') : wpList P ops Q (o :: rest) a (w.alloc (.cells #[.int .i64 p, .int .u64 q] E)) := by
  obtain ⟨i0, hi, hz0, hz1, hz2⟩ := info_parts info
  refine wpList_append_own _ hgd s x T ho base E i0 (.agg #[.int .i64 0, .int .u64 0]) 2 16 hT hi hz0 hz1 hz2 rfl (by decide) v n _ hs (hown.alloc _) ⟨w.heap.size, 0, none⟩ 1 1 [.int .i64 p, .int .u64 q] hx rfl ?_ ?_ (by unfold maxLen; omega) (by omega) (by simp; omega) ?_
  · intro j u hj
    match j, hj with
    | 0, hj => simp at hj; subst hj; rw [Addr.add_lit]; exact cell_alloc0 _ _ _ _
    | 1, hj => simp at hj; subst hj; rw [Addr.add_lit]; exact cell_alloc1 _ _ _ _
  · intro u hu; simp at hu; rcases hu with rfl | rfl <;> rfl
  · intro v' w' hown' hgrow _
    refine h v' w' (by rw [shc_snoc]; exact hown') ?_
    exact ((Below.refl _ _).alloc hbase _).grown hgrow (by simp; omega) (fun k hk => (hown.lt k hk).1)

theorem RdS.own {w : World} {base n : Nat} {E : TypeId} {v : Value} {l : List (Int × Int)} (h : w.ownsRow base E 2 v n (shc l)) (hl : l.length = n)
    (hb : ∀ i, i < n → (-9223372036854775808 ≤ (l.getD i (0, 0)).1 ∧ (l.getD i (0, 0)).1 ≤ 9223372036854775807) ∧ 0 ≤ (l.getD i (0, 0)).2 ∧ (l.getD i (0, 0)).2 ≤ 18446744073709551615) : ∃ a c, v = .slice a n c ∧ RdS w a n c l := by
  rcases h.2 with ⟨rfl, rfl⟩ | ⟨g, cap, cur, rfl, hb', hg, h1, h2, hs, ht⟩
  · exact ⟨none, 0, rfl, ⟨hl, Nat.le_refl _, Nat.zero_le _, hb, fun _ => rfl, by simp⟩⟩
  · refine ⟨_, _, rfl, ⟨hl, h1, h2, hb, by simp, fun x hx i hi => ?_⟩⟩
    obtain rfl := Option.some.inj hx
    have := shc_get l i (by omega)
    exact ⟨h.cells (g := g) rfl _ _ this.1, h.cells (g := g) rfl _ _ this.2⟩

/-- What uint64 makes of an int. -/
def u64of (x : Int) : Int := IntKind.u64.wrap x
theorem u64of_bd (x : Int) : 0 ≤ u64of x ∧ u64of x ≤ 18446744073709551615 := by
  unfold u64of IntKind.wrap
  simp [IntKind.signed, IntKind.bits]
  omega
theorem u64of_id {x : Int} (h0 : 1 ≤ x) (h1 : x ≤ 2147483646) : u64of x = x := by
  unfold u64of IntKind.wrap
  simp [IntKind.signed, IntKind.bits]
  omega
theorem own_below2 {w w' : World} {base n : Nat} {E : TypeId} {v : Value} {xs : List Value} (h : w.ownsRow base E 2 v n xs) (hb : Below w.heap.size w w') : w'.ownsRow base E 2 v n xs :=
  h.kept (grown_below hb none) (by cases hv : v.ownBlock <;> simp)

theorem infoSh : (Try.prog.info? 29).map (fun i => (i.zero, i.size, i.bytes)) = some (some (.agg #[.int .i64 0, .int .u64 0]), 2, 16) := by kernel_rfl
theorem infoZ : (Try.prog.info? 3).map (fun i => (i.zero, i.size, i.bytes)) = some (some (.int .i64 0), 1, 8) := by kernel_rfl
/-- What append has gathered reads as the ints that it gathered. -/
theorem RdI.own {w : World} {base n : Nat} {E : TypeId} {v : Value} {L : List Int} (h : w.ownsRow base E 1 v n (zns L)) (hb : ∀ x ∈ L, -9223372036854775808 ≤ x ∧ x ≤ 9223372036854775807) : ∃ a c, v = .slice a n c ∧ RdI w a n c L := by
  have hl : L.length = n := by have := h.1; rw [zns_len] at this; omega
  rcases h.2 with ⟨rfl, rfl⟩ | ⟨g, cap, cur, rfl, hb', hg, h1, h2, hs, ht⟩
  · exact ⟨none, 0, rfl, ⟨hl, Nat.le_refl _, Nat.zero_le _, hb, fun _ => rfl, by simp⟩⟩
  · refine ⟨_, _, rfl, ⟨hl, h1, h2, hb, by simp, fun x hx i hi => ?_⟩⟩
    obtain rfl := Option.some.inj hx
    rw [Addr.add_lit, Nat.zero_add]
    exact zns_at h hi
end Go.Proofs.Ytoekicjppheemae

namespace Go.Proofs.Ytoekicjppheemae
open Go.RowKit Crm

/-- A slice that the call itself gathers, and one number more: a step of a region that draws. -/
theorem step_app1 {P : Program} {T E : TypeId} (hT : P.underlying T = some (.slice E)) (info : (P.info? E).map (fun i => (i.zero, i.size, i.bytes)) = some (some (.int .u64 0), 1, 8))
    (w : World) {w1 : World} {ops : Array Oper} {o : Oper} {a : Act} {K : Act → World → Prop} {Q : Exit → Act → World → Prop} {F : Prop} (hgd : o.guard = none) (s x : Operand)
    (ho : o.op = .call { callee := .builtin .append, args := #[s, x], argTypes := #[T, T] })
    (base : Nat) (v : Value) (n : Nat) (xs : List Int) (hs : a.eval s = v) (hown : w.ownsRow base E 1 v n (xs.map (Value.int .u64))) (y : Int) (hx : a.eval x = .slice (some ⟨w.heap.size, 0, none⟩) 1 1)
    (hw1 : w1 = w.alloc (.cells #[.int .u64 y] E)) (hn : n ≤ 1000000) (hbase : base ≤ w.heap.size)
    (h : ∀ v' w', w'.ownsRow base E 1 v' (n + 1) ((xs ++ [y]).map (Value.int .u64)) → Below base w w' → K (a.put o.dst v') w') :
    if Region.wanted o (yielded ops a.tmps) = true then Oper.wp P o a w1 K Q else F := by
  subst hw1
  obtain ⟨i0, hi, hz0, hz1, hz2⟩ := info_parts info
  refine step_append_lies _ hgd s x T ho base E i0 (.int .u64 0) 1 8 hT hi hz0 hz1 hz2 rfl (by decide) v n _ hs (hown.alloc _) ⟨w.heap.size, 0, none⟩ 1 1 [.int .u64 y] hx rfl ?_ ?_ (by decide) (by unfold maxLen; omega) (by omega) (by simp; omega) _ rfl ?_
  · intro j u hj
    match j, hj with
    | 0, hj => simp at hj; subst hj; simp [Addr.add]
  · intro u hu; simp at hu; subst hu; rfl
  · intro g cap w' hown' hgrow _ _
    refine h _ w' (by rw [List.map_append]; exact hown') ?_
    exact ((Below.refl _ _).alloc hbase _).grown hgrow (by simp; omega) (fun k hk => (hown.lt k hk).1)

set_option maxRecDepth 100000 in
set_option maxHeartbeats 1000000 in
theorem cEquation (x y : Int) (c e : Nat) (w : World) (hx1 : 1 ≤ x) (hx9 : x ≤ 9) (hy0 : 0 ≤ y) (hy1 : y ≤ 18446744073709551615) (hc : c ≤ 100) (hec : e < c) :
    Calls Try.prog 37 #[.agg #[.int .i64 x, .int .u64 y], .int .i64 c, .int .i64 e] w fun en w' => ∃ a cp, en = .returned (.slice a (c + e + 1) cp) ∧ Rd w' a (c + e + 1) cp (eqn x y c e (c + e + 1)) ∧ (∀ q, a = some q → w.heap.size ≤ q.block) ∧ Below w.heap.size w w' := by
  obtain ⟨i0, hi, hz0, hz1, hz2⟩ := info_parts info22
  have hcA0 := cell_alloc0 w (.int .i64 x) (.int .u64 y) 29
  have hcA1 := cell_alloc1 w (.int .i64 x) (.int .u64 y) 29
  have hbA : Below w.heap.size w (w.alloc (.cells #[.int .i64 x, .int .u64 y] 29)) := (Below.refl _ _).alloc (Nat.le_refl _) _
  have HsA : Hid ((w.alloc (.cells #[.int .i64 x, .int .u64 y] 29)).heap.size = w.heap.size + 1) := by simp [Hid]
  go_enter Try.func37, Try.ntmps37
  go_wp2_with (at_make; generalize w.alloc (.cells #[.int .i64 x, .int .u64 y] 29) = wA at *; refine wpList_make_own _ rfl _ _ 23 rfl wA.heap.size 22 i0 (.int .u64 0) 1 Try.underlying23 hi hz0 hz1 .i64 .i64 _ (c + e + 1) rfl rfl (by omega) (by rw [hz2]; omega) (by unfold maxLen; omega) (Nat.le_refl _) ?_; intro w1 hown hgrow)
  have hb1 : Below wA.heap.size wA w1 := (Below.refl _ _).grown hgrow (Nat.le_refl _) (by simp)
  clear hgrow
  go_loopw [8, 20] (fun v i wr => ∃ k : Nat, k ≤ c ∧ i = .int .i64 k ∧ wr.ownsRow wA.heap.size 22 1 v k ((eqn x y c e k).map (Value.int .u64)) ∧ Below wA.heap.size wA wr) (fun _ i _ => c - (intOf i).toNat)
  case atStart => exact ⟨0, Nat.zero_le _, rfl, hown, hb1⟩
  case round =>
    clear hown hb1
    obtain ⟨k, hk, rfl, hown, hbel⟩ := hrel
    have hs1 := hbel.size
    by_cases hlt : k < c
    · have hp := pw_bd x k
      have HV : Hid (pw x k = eqc x y c e k) := eqc_first x y e hlt
      go_wp2_with (first | (go_at_call 48; refine (fPow _ _ _ (by omega) (by omega) (by omega) (by omega)).mono ?_; rintro en w' ⟨rfl, hw⟩; have hw := hw.symm; subst hw) | (at_builtin; refine wpList_app1 Try.underlying23 info22 _ rfl _ _ rfl wA.heap.size _ _ _ rfl hown _ rfl (by omega) (by omega) ?_; intro v' w3 hown3 hbel3; rw [eqn_snoc x y c e k HV.out] at hown3; have hbel4 := hbel.trans hbel3; clear hown hbel hbel3))
      go_roundw
      case rel => exact ⟨k + 1, by omega, by go_num, hown3, hbel4⟩
      case measure => simp [intOf]; omega
    · have hkc : k = c := by omega
      subst hkc
      obtain ⟨wo, hwo⟩ : ∃ wo, wo = wr := ⟨_, rfl⟩
      subst hwo
      go_wp2
      go_loopw [8, 32] (fun v i wr => ∃ j : Nat, j ≤ e ∧ i = .int .i64 j ∧ wr.ownsRow wA.heap.size 22 1 v (k + j) ((eqn x y k e (k + j)).map (Value.int .u64)) ∧ Below wA.heap.size wA wr) (fun _ i _ => e - (intOf i).toNat)
      case atStart => exact ⟨0, Nat.zero_le _, rfl, hown, hbel⟩
      case round =>
        clear hown hbel
        obtain ⟨j, hj, rfl, hown, hbel⟩ := hrel
        have hs2 := hbel.size
        by_cases hlt : j < e
        · obtain ⟨a', c', rfl, hr, _⟩ := Rd.own hown (bd_u64 (eqn_bd x y k e (k + j)))
          obtain ⟨b, o, z, rfl, hbb, HZ, hz0', hz1', hcz⟩ := hr.one (show j < k + j by omega)
          have HZ2 : Hid (z = pw x j) := by
            have := HZ.out
            rw [eqn_getD x y k e (by omega), ← eqc_first x y e (by omega)] at this
            exact this.symm
          have hcy : wr.cell? ⟨w.heap.size, 1, none⟩ = some (.int .u64 y) := by rw [hbel.cell (by have := HsA.out; simp only; omega)]; exact hcA1
          have hm := nm_bd (y * z)
          have HV : Hid (nm (-nm (y * z)) = eqc x y k e (k + j)) := by rw [HZ2.out, ← Int.zero_sub]; exact eqc_second x y k hlt
          have hj0 : (0 : Int) ≤ (j : Int) := by omega
          have hjk : (j : Int) < (k : Int) + (j : Int) := by omega
          have hown2 : wr.drew.ownsRow wA.heap.size 22 1 (.slice (some ⟨b, o, none⟩) (k + j) c') (k + j) ((eqn x y k e (k + j)).map (Value.int .u64)) := hown
          have hbel2 := hbel.drew
          clear HZ hr
          go_wp2
          go_region_law (first | (refine step_app1 Try.underlying23 info22 wr.drew rfl _ _ rfl wA.heap.size _ _ _ rfl hown2 (nm (-nm (y * z))) rfl rfl (by omega) (by exact hs2) ?_; intro v' w3 hown3 hbel3; rw [eqn_snoc x y k e (k + j) HV.out] at hown3; have hbel4 := hbel2.trans hbel3) | (go_simp; go_at_call 41; refine (fMul _ _ _ (by omega) (by omega) (by omega) (by omega)).mono ?_; rintro en w' ⟨rfl, rfl⟩) | (go_simp; go_at_call 49; refine (fSub _ _ _ (by omega) (by omega) (by omega) (by omega)).mono ?_; rintro en w' ⟨rfl, rfl⟩))
          all_goals
            clear hown hbel hown2 hbel2 hbel3
            go_wp2
            go_roundw
            case rel => exact ⟨j + 1, by omega, by go_num, hown3, hbel4⟩
            case measure => simp [intOf]; omega
        · have hje : j = e := by omega
          subst hje
          obtain ⟨a', c', rfl, hr, _⟩ := Rd.own hown (bd_u64 (eqn_bd x y k j (k + j)))
          obtain ⟨b, o, z, rfl, hbb, HZ, hz0', hz1', hcz⟩ := hr.one (show j < k + j by omega)
          have HZ2 : Hid (z = pw x j) := by
            have := HZ.out
            rw [eqn_getD x y k j (by omega), ← eqc_first x y j (by omega)] at this
            exact this.symm
          have hcy : wr.cell? ⟨w.heap.size, 1, none⟩ = some (.int .u64 y) := by rw [hbel.cell (by have := HsA.out; simp only; omega)]; exact hcA1
          have hm := nm_bd (y * z)
          have HV : Hid (nm (y * z) = eqc x y k j (k + j)) := by rw [HZ2.out]; exact eqc_last x y k j
          have hj0 : (0 : Int) ≤ (j : Int) := by omega
          have hjk : (j : Int) < (k : Int) + (j : Int) := by omega
          have hown2 : wr.drew.ownsRow wA.heap.size 22 1 (.slice (some ⟨b, o, none⟩) (k + j) c') (k + j) ((eqn x y k j (k + j)).map (Value.int .u64)) := hown
          have hbel2 := hbel.drew
          clear HZ hr
          go_wp2
          go_region_law (first | (refine step_app1 Try.underlying23 info22 wr.drew rfl _ _ rfl wA.heap.size _ _ _ rfl hown2 (nm (y * z)) rfl rfl (by omega) (by exact hs2) ?_; intro v' w3 hown3 hbel3; rw [eqn_snoc x y k j (k + j) HV.out] at hown3; have hbel4 := hbel2.trans hbel3; obtain ⟨a3, c3, rfl, hr3, hf3⟩ := Rd.own hown3 (bd_u64 (eqn_bd x y k j (k + j + 1)))) | (go_simp; go_at_call 41; refine (fMul _ _ _ (by omega) (by omega) (by omega) (by omega)).mono ?_; rintro en w' ⟨rfl, rfl⟩))
          all_goals
            clear hown hbel hown2 hbel2 hbel3
            go_wp2
            go_ret
            exact ⟨a3, c3, rfl, hr3, fun q hq => by have := hf3 q hq; have := HsA.out; omega, hbA.trans (hbel4.mono hbA.size)⟩
end Go.Proofs.Ytoekicjppheemae
