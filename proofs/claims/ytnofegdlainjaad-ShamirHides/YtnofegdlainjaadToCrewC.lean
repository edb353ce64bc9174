/- Slices of ints that are read; shares that a call gathers. · croftkeep.crew, filled, shares. -/
import Derived.Test.YtnofegdlainjaadToOwnC
import Derived.Test.YtnofegdlainjaadToPolyM2
import Derived.Test.YtnofegdlainjaadToPadC
import Derived.Test.YtnofegdlainjaadToProdC
namespace Go.Proofs.Ytnofegdlainjaad
open Go.RowKit Crm

/-- A slice of ints that is read. -/
structure RdI (w : World) (a : Option Addr) (n c : Nat) (xs : List Int) : Prop where
  len : xs.length = n
  cap : n ≤ c
  max : c ≤ maxLen
  bd : ∀ x ∈ xs, -9223372036854775808 ≤ x ∧ x ≤ 9223372036854775807
  nil : a = none → c = 0
  cell : ∀ x, a = some x → ∀ i, i < n → w.cell? (x.add i) = some (.int .i64 (xs.getD i 0))
theorem RdI.one {w : World} {a : Option Addr} {n c : Nat} {xs : List Int} (h : RdI w a n c xs) {k : Nat} (hk : k < n) :
    ∃ b o x, a = some ⟨b, o, none⟩ ∧ b < w.heap.size ∧ Hid (xs.getD k 0 = x) ∧ -9223372036854775808 ≤ x ∧ x ≤ 9223372036854775807 ∧ w.cell? ⟨b, o + k, none⟩ = some (.int .i64 x) := by
  cases ha : a with
  | none => have := h.nil ha; have := h.cap; omega
  | some x =>
    have h0 := h.cell x ha k hk
    have hs : x.spot = none := by
      have := spot_none (h.cell x ha 0 (by omega))
      unfold Addr.add at this
      split at this <;> simp_all
    obtain ⟨b, o, s⟩ := x
    simp only at hs
    subst hs
    rw [Addr.add_lit] at h0
    have hb := h.bd (xs.getD k 0) (getD_mem (by rw [h.len]; exact hk))
    exact ⟨b, o, _, rfl, World.block_lt_of_cell? w _ h0, rfl, hb.1, hb.2, h0⟩
theorem RdI.below {w w' : World} {a : Option Addr} {n c : Nat} {xs : List Int} (h : RdI w a n c xs) (hb : Below w.heap.size w w') : RdI w' a n c xs := by
  refine ⟨h.len, h.cap, h.max, h.bd, h.nil, fun x hx i hi => ?_⟩
  have := h.cell x hx i hi
  rw [hb.cell (World.block_lt_of_cell? w _ this)]
  exact this
theorem RdI.drewN {w : World} {a : Option Addr} {n c : Nat} {xs : List Int} (h : RdI w a n c xs) (q : Nat) : RdI (w.drewN q) a n c xs := ⟨h.len, h.cap, h.max, h.bd, h.nil, h.cell⟩
theorem RdI.take {w : World} {a : Option Addr} {n c : Nat} {xs : List Int} (h : RdI w a n c xs) {k : Nat} (hk : k ≤ n) : RdI w a k c (xs.take k) := by
  refine ⟨by have := h.len; simp; omega, by have := h.cap; omega, h.max, fun x hx => h.bd x (List.mem_of_mem_take hx), h.nil, fun x hx i hi => ?_⟩
  rw [h.cell x hx i (by omega)]
  congr 2
  simp [hi]

/-- The cells of shares. -/
def shc (l : List (Int × Int)) : List Value := l.flatMap fun p => [.int .i64 p.1, .int .u64 p.2]
theorem shc_snoc (l : List (Int × Int)) (p : Int × Int) : shc (l ++ [p]) = shc l ++ [.int .i64 p.1, .int .u64 p.2] := by simp [shc]
theorem shc_get : ∀ (l : List (Int × Int)) (i : Nat), i < l.length → (shc l)[i * 2]? = some (.int .i64 (l.getD i (0, 0)).1) ∧ (shc l)[i * 2 + 1]? = some (.int .u64 (l.getD i (0, 0)).2)
  | [], i, h => by simp at h
  | p :: l, 0, _ => ⟨rfl, rfl⟩
  | p :: l, i + 1, h => by
    have := shc_get l i (by simpa using h)
    have e1 : (i + 1) * 2 = i * 2 + 1 + 1 := by omega
    rw [e1]
    exact this

theorem shc_len (l : List (Int × Int)) : (shc l).length = l.length * 2 := by
  induction l with
  | nil => rfl
  | cons a l ih => simp [shc] at ih ⊢; omega
theorem shc_app (l k : List (Int × Int)) : shc (l ++ k) = shc l ++ shc k := by simp [shc]
theorem shc_one (l : List (Int × Int)) : ∀ u ∈ shc l, u.oneCell' = true := fun u hu => by
  unfold shc at hu
  obtain ⟨p, _, hp⟩ := List.mem_flatMap.1 hu
  simp at hp
  rcases hp with rfl | rfl <;> rfl

/-- A slice of shares that the call itself gathers, and one share more. -/
theorem wpList_appS {P : Program} {T E : TypeId} (hT : P.underlying T = some (.slice E)) (info : (P.info? E).map (fun i => (i.zero, i.size, i.bytes)) = some (some (.agg #[.int .i64 0, .int .u64 0]), 2, 16))
    (w : World) {ops : Array Oper} {rest : List Oper} {o : Oper} {a : Act} {Q : Exit → Act → World → Prop} (hgd : o.guard = none) (s x : Operand)
    (ho : o.op = .call { callee := .builtin .append, args := #[s, x], argTypes := #[T, T] })
    (base : Nat) (v : Value) (n : Nat) (l : List (Int × Int)) (hs : a.eval s = v) (hown : w.ownsRow base E 2 v n (shc l)) (p q : Int) (hx : a.eval x = .slice (some ⟨w.heap.size, 0, none⟩) 1 1)
    (hn : n ≤ 1000000) (hbase : base ≤ w.heap.size)
    (h : ∀ v' w', w'.ownsRow base E 2 v' (n + 1) (shc (l ++ [(p, q)])) → Below base w w' → wpList P ops Q rest (a.put o.dst v') w') : wpList P ops Q (o :: rest) a (w.alloc (.cells #[.int .i64 p, .int .u64 q] E)) := by
  obtain ⟨i0, hi, hz0, hz1, hz2⟩ := info_parts info
  refine wpList_append_own _ hgd s x T ho base E i0 (.agg #[.int .i64 0, .int .u64 0]) 2 16 hT hi hz0 hz1 hz2 rfl (by decide) v n _ hs (hown.alloc _) ⟨w.heap.size, 0, none⟩ 1 1 [.int .i64 p, .int .u64 q] hx rfl ?_ ?_ (by unfold maxLen; omega) (by omega) (by simp; omega) ?_
  · intro j u hj
    match j, hj with
    | 0, hj => simp at hj; subst hj; rw [Addr.add_lit]; exact cell_alloc0 _ _ _ _
    | 1, hj => simp at hj; subst hj; rw [Addr.add_lit]; exact cell_alloc1 _ _ _ _
  · intro u hu; simp at hu; rcases hu with rfl | rfl <;> rfl
  · intro v' w' hown' hgrow _
    refine h v' w' (by rw [shc_snoc]; exact hown') ?_
    exact ((Below.refl _ _).alloc hbase _).grown hgrow (by simp; omega) (fun k hk => (hown.lt k hk).1)

theorem RdS.own {w : World} {base n : Nat} {E : TypeId} {v : Value} {l : List (Int × Int)} (h : w.ownsRow base E 2 v n (shc l)) (hl : l.length = n)
    (hb : ∀ i, i < n → (-9223372036854775808 ≤ (l.getD i (0, 0)).1 ∧ (l.getD i (0, 0)).1 ≤ 9223372036854775807) ∧ 0 ≤ (l.getD i (0, 0)).2 ∧ (l.getD i (0, 0)).2 ≤ 18446744073709551615) : ∃ a c, v = .slice a n c ∧ RdS w a n c l := by
  rcases h.2 with ⟨rfl, rfl⟩ | ⟨g, cap, cur, rfl, hb', hg, h1, h2, hs, ht⟩
  · exact ⟨none, 0, rfl, ⟨hl, Nat.le_refl _, Nat.zero_le _, hb, fun _ => rfl, by simp⟩⟩
  · refine ⟨_, _, rfl, ⟨hl, h1, h2, hb, by simp, fun x hx i hi => ?_⟩⟩
    obtain rfl := Option.some.inj hx
    have := shc_get l i (by omega)
    exact ⟨h.cells (g := g) rfl _ _ this.1, h.cells (g := g) rfl _ _ this.2⟩

/-- What uint64 makes of an int. -/
def u64of (x : Int) : Int := IntKind.u64.wrap x
theorem u64of_bd (x : Int) : 0 ≤ u64of x ∧ u64of x ≤ 18446744073709551615 := by
  unfold u64of IntKind.wrap
  simp [IntKind.signed, IntKind.bits]
  omega
theorem u64of_id {x : Int} (h0 : 1 ≤ x) (h1 : x ≤ 2147483646) : u64of x = x := by
  unfold u64of IntKind.wrap
  simp [IntKind.signed, IntKind.bits]
  omega
theorem own_below2 {w w' : World} {base n : Nat} {E : TypeId} {v : Value} {xs : List Value} (h : w.ownsRow base E 2 v n xs) (hb : Below w.heap.size w w') : w'.ownsRow base E 2 v n xs :=
  h.kept (grown_below hb none) (by cases hv : v.ownBlock <;> simp)

theorem infoSh : (Try.prog.info? 38).map (fun i => (i.zero, i.size, i.bytes)) = some (some (.agg #[.int .i64 0, .int .u64 0]), 2, 16) := by kernel_rfl
theorem infoZ : (Try.prog.info? 3).map (fun i => (i.zero, i.size, i.bytes)) = some (some (.int .i64 0), 1, 8) := by kernel_rfl
/-- What append has gathered reads as the ints that it gathered. -/
theorem RdI.own {w : World} {base n : Nat} {E : TypeId} {v : Value} {L : List Int} (h : w.ownsRow base E 1 v n (zns L)) (hb : ∀ x ∈ L, -9223372036854775808 ≤ x ∧ x ≤ 9223372036854775807) : ∃ a c, v = .slice a n c ∧ RdI w a n c L := by
  have hl : L.length = n := by have := h.1; rw [zns_len] at this; omega
  rcases h.2 with ⟨rfl, rfl⟩ | ⟨g, cap, cur, rfl, hb', hg, h1, h2, hs, ht⟩
  · exact ⟨none, 0, rfl, ⟨hl, Nat.le_refl _, Nat.zero_le _, hb, fun _ => rfl, by simp⟩⟩
  · refine ⟨_, _, rfl, ⟨hl, h1, h2, hb, by simp, fun x hx i hi => ?_⟩⟩
    obtain rfl := Option.some.inj hx
    rw [Addr.add_lit, Nat.zero_add]
    exact zns_at h hi
end Go.Proofs.Ytnofegdlainjaad

namespace Go.Proofs.Ytnofegdlainjaad
open Go.RowKit Crm

/-- So many parties, of whom k may look together. -/
def Crewed (e : Ending) : Prop := ∃ k m : Nat, e = .returned (.tuple #[.int .i64 k, .int .i64 m]) ∧ k ≤ 4 ∧ 2 * k + 1 ≤ m ∧ m ≤ 9
set_option maxRecDepth 100000 in
theorem kCrew (t n : Int) (w : World) :
    Calls Try.prog 28 #[.int .i64 t, .int .i64 n] w fun e w' => Crewed e ∧ w' = w := by
  go_enter Try.func28, Try.ntmps28
  go_wp2_with fail
  refine (rRest _ 5 _ (by omega) (by omega)).mono ?_
  rintro e w1 ⟨⟨k, hk, rfl⟩, hw⟩
  have hw := hw.symm
  subst hw
  have hd2 : (9 : Int) - 2 * k = ((9 - 2 * k : Nat) : Int) := by omega
  go_wp2_with fail
  refine (rRest _ (9 - 2 * k) _ (by omega) (by omega)).mono ?_
  rintro e w1 ⟨⟨q, hq, rfl⟩, hw⟩
  have hw := hw.symm
  subst hw
  go_wp2
  go_ret2
  exact ⟨⟨k, 2 * k + 1 + q, by go_num, by omega, by omega, by omega⟩, rfl⟩

set_option maxRecDepth 100000 in
theorem kFilledL (a : Option Addr) (n c : Nat) (xs : List Int) (k : Nat) (w : World) (h : Rd w a n c xs) (hk : k ≤ 1000) :
    Calls Try.prog 30 #[.slice a n c, .int .i64 k] w fun e w' => ∃ g, e = .returned (.slice (some ⟨g, 0, none⟩) k k) ∧ Rd w' (some ⟨g, 0, none⟩) k k (padded xs k) ∧ Below w.heap.size w w' := by
  obtain ⟨i0, hi, hz0, hz1, hz2⟩ := info_parts info23
  obtain ⟨P, HP⟩ : ∃ P, Hid (padded xs k = P) := ⟨_, rfl⟩
  have HPl : Hid (P.length = k) := by unfold Hid; rw [← HP.out]; exact padded_len xs k
  have HPb : Hid (∀ x ∈ P, 0 ≤ x ∧ x ≤ 18446744073709551615) := by unfold Hid; rw [← HP.out]; exact padded_bd h.bd k
  rw [HP.out]
  obtain ⟨cs, HCS⟩ : ∃ cs, Hid ((xs.take k).map (Value.int .u64) = cs) := ⟨_, rfl⟩
  obtain ⟨cu, HCU⟩ : ∃ cu, Hid ((List.replicate k (0 : Int)).map (Value.int .u64) = cu) := ⟨_, rfl⟩
  have hrl := h.len
  have hcl := copy_len (k := k) hrl
  have h1c := one_ints (xs.take k)
  have hsrcs := fun w' (hh : Rd w' a n c xs) => copy_src hh k
  have HSPL : Hid (Go.splice cu 0 cs = P.map (Value.int .u64)) := by unfold Hid; rw [← HCU.out, ← HCS.out, ← HP.out]; exact padded_splice xs k
  have hcul : cu.length = k := by rw [← HCU.out]; simp
  rw [HCS.out] at hcl h1c hsrcs
  have hcl2 : cs.length ≤ k := by rw [hcl]; exact Nat.min_le_right _ _
  go_enter Try.func30, Try.ntmps30
  go_wp2_with (first | (at_make; refine wpList_make_full _ rfl _ _ 22 rfl w.heap.size 23 i0 (.int .u64 0) 1 Try.underlying22 hi hz0 hz1 .i64 .i64 _ _ k rfl rfl (by omega) (by omega) (by rw [hz2]; omega) (by unfold maxLen; omega) (Nat.le_refl _) ?_; intro w3 hown hgrow; have hb3 : Blk w3 w.heap.size (List.replicate k 0) := Blk.made hown; have hbel3 : Below w.heap.size w w3 := (Below.refl _ _).grown hgrow (Nat.le_refl _) (by simp); have hrow3 := h.below hbel3; unfold Blk at hb3; rw [HCU.out] at hb3; clear hown hgrow) | (refine wpList_copy_splice rfl _ _ 22 22 rfl 23 Try.underlying22 (by rw [hi, Option.map_some, hz1]) (some ⟨w.heap.size, 0, none⟩) a k k n c (by rfl) (by rfl) w.heap.size 0 cu 23 hb3 cs hcl (fun hp => ⟨rfl, hsrcs w3 hrow3 hp⟩) (by omega) h1c w.heap.size w hbel3 (Nat.le_refl _) ?_; intro w4 HC4 hbel4))
  have hb4 : Blk w4 w.heap.size P := by unfold Blk; rw [← HSPL.out]; exact HC4.out
  have hr4 : Rd w4 (some ⟨w.heap.size, 0, none⟩) k k P := hb4.whole k HPl.out.symm (by unfold maxLen; omega) HPb.out
  clear HC4 hb3 hbel3 hrow3 hsrcs hcl h1c HCS HCU hcul hcl2 HSPL hb4
  go_wp2
  go_ret
  exact ⟨_, rfl, hr4, hbel4⟩

theorem kFilled (a : Option Addr) (n c : Nat) (xs : List Int) (k : Nat) (w : World) (h : Rd w a n c xs) (hk : k ≤ 4) :
    Calls Try.prog 30 #[.slice a n c, .int .i64 k] w fun e w' => ∃ g, e = .returned (.slice (some ⟨g, 0, none⟩) k k) ∧ Rd w' (some ⟨g, 0, none⟩) k k (padded xs k) ∧ Below w.heap.size w w' :=
  kFilledL _ _ _ _ _ _ h (by omega)

/-- Shares of all parties' numbers. -/
def shl (xs : List Int) (n : Nat) : List (Int × Int) := (List.range n).map fun (i : Nat) => ((i : Int) + 1, xs.getD i 0)
theorem shl_len (xs : List Int) (n : Nat) : (shl xs n).length = n := by simp [shl]
theorem shl_snoc (xs : List Int) (n : Nat) {x : Int} (hx : xs.getD n 0 = x) : shl xs n ++ [((n : Int) + 1, x)] = shl xs (n + 1) := by
  unfold shl
  rw [List.range_succ, List.map_append, ← hx]
  rfl
theorem shl_getD (xs : List Int) {n i : Nat} (h : i < n) : (shl xs n).getD i (0, 0) = ((i : Int) + 1, xs.getD i 0) := by simp [shl, h]

set_option maxRecDepth 100000 in
set_option maxHeartbeats 1000000 in
theorem kShares (a : Option Addr) (n c : Nat) (xs : List Int) (w : World) (h : Rd w a n c xs) (hn : n ≤ 9) :
    Calls Try.prog 32 #[.slice a n c] w fun e w' => ∃ v, e = .returned v ∧ w'.ownsRow w.heap.size 38 2 v n (shc (shl xs n)) ∧ Below w.heap.size w w' := by
  go_enter Try.func32, Try.ntmps32
  go_wp2
  go_loopw [3, 8] (fun v i wr => ∃ k : Nat, k ≤ n ∧ i = .int .i64 k ∧ wr.ownsRow w.heap.size 38 2 v k (shc (shl xs k)) ∧ Below w.heap.size w wr) (fun _ i _ => n - (intOf i).toNat)
  case atStart => exact ⟨0, Nat.zero_le _, rfl, World.ownsRow_nil _ _ _ _, Below.refl _ _⟩
  case round =>
    obtain ⟨k, hk, rfl, hown, hbel⟩ := hrel
    have hs1 := hbel.size
    by_cases hlt : k < n
    · obtain ⟨b, o, x, rfl, hbb, HX, hx0, hx1, hcx⟩ := (h.below hbel).one hlt
      have HS : Hid (shl xs k ++ [((k : Int) + 1, x)] = shl xs (k + 1)) := shl_snoc xs k HX.out
      go_wp2_with (at_builtin; refine wpList_appS Try.underlying39 infoSh _ rfl _ _ rfl w.heap.size _ _ _ rfl hown _ _ rfl (by omega) (by omega) ?_; intro v' w7 hown7 hbel7; rw [HS.out] at hown7; have hbel8 := hbel.trans hbel7; clear hbel7)
      go_roundw
      case rel => exact ⟨k + 1, by omega, by go_num, hown7, hbel8⟩
      case measure => simp [intOf]; omega
    · have hkn : k = n := by omega
      subst hkn
      go_wp2
      go_ret
      exact ⟨_, rfl, hown, hbel⟩
end Go.Proofs.Ytnofegdlainjaad
