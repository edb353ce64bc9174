/- Slices of ints that are read; shares that a call gathers. · croftkeep.crew, filled, shares. · GAUSS: columns that are sums of those ahead; what row steps keep; the document's way, column by column. Plain. -/
import Derived.Test.YtgmelcdgnjcojafToOwnC
import Derived.Test.YtgmelcdgnjcojafToPolyM2
import Derived.Test.YtgmelcdgnjcojafToPlaceC
import Derived.Test.YtgmelcdgnjcojafToTrimC
namespace Go.Proofs.Ytgmelcdgnjcojaf
open Go.RowKit Crm

/-- A slice of ints that is read. -/
structure RdI (w : World) (a : Option Addr) (n c : Nat) (xs : List Int) : Prop where
  len : xs.length = n
  cap : n ≤ c
  max : c ≤ maxLen
  bd : ∀ x ∈ xs, -9223372036854775808 ≤ x ∧ x ≤ 9223372036854775807
  nil : a = none → c = 0
  cell : ∀ x, a = some x → ∀ i, i < n → w.cell? (x.add i) = some (.int .i64 (xs.getD i 0))
theorem RdI.one {w : World} {a : Option Addr} {n c : Nat} {xs : List Int} (h : RdI w a n c xs) {k : Nat} (hk : k < n) :
    ∃ b o x, a = some ⟨b, o, none⟩ ∧ b < w.heap.size ∧ Hid (xs.getD k 0 = x) ∧ -9223372036854775808 ≤ x ∧ x ≤ 9223372036854775807 ∧ w.cell? ⟨b, o + k, none⟩ = some (.int .i64 x) := by
  cases ha : a with
  | none => have := h.nil ha; have := h.cap; omega
  | some x =>
    have h0 := h.cell x ha k hk
    have hs : x.spot = none := by
      have := spot_none (h.cell x ha 0 (by omega))
      unfold Addr.add at this
      split at this <;> simp_all
    obtain ⟨b, o, s⟩ := x
    simp only at hs
    subst hs
    rw [Addr.add_lit] at h0
    have hb := h.bd (xs.getD k 0) (getD_mem (by rw [h.len]; exact hk))
    exact ⟨b, o, _, rfl, World.block_lt_of_cell? w _ h0, rfl, hb.1, hb.2, h0⟩
theorem RdI.below {w w' : World} {a : Option Addr} {n c : Nat} {xs : List Int} (h : RdI w a n c xs) (hb : Below w.heap.size w w') : RdI w' a n c xs := by
  refine ⟨h.len, h.cap, h.max, h.bd, h.nil, fun x hx i hi => ?_⟩
  have := h.cell x hx i hi
  rw [hb.cell (World.block_lt_of_cell? w _ this)]
  exact this
theorem RdI.drewN {w : World} {a : Option Addr} {n c : Nat} {xs : List Int} (h : RdI w a n c xs) (q : Nat) : RdI (w.drewN q) a n c xs := ⟨h.len, h.cap, h.max, h.bd, h.nil, h.cell⟩
theorem RdI.take {w : World} {a : Option Addr} {n c : Nat} {xs : List Int} (h : RdI w a n c xs) {k : Nat} (hk : k ≤ n) : RdI w a k c (xs.take k) := by
  refine ⟨by have := h.len; simp; omega, by have := h.cap; omega, h.max, fun x hx => h.bd x (List.mem_of_mem_take hx), h.nil, fun x hx i hi => ?_⟩
  rw [h.cell x hx i (by omega)]
  congr 2
  simp [hi]

/-- The cells of shares. -/
def shc (l : List (Int × Int)) : List Value := l.flatMap fun p => [.int .i64 p.1, .int .u64 p.2]
theorem shc_snoc (l : List (Int × Int)) (p : Int × Int) : shc (l ++ [p]) = shc l ++ [.int .i64 p.1, .int .u64 p.2] := by simp [shc]
theorem shc_get : ∀ (l : List (Int × Int)) (i : Nat), i < l.length → (shc l)[i * 2]? = some (.int .i64 (l.getD i (0, 0)).1) ∧ (shc l)[i * 2 + 1]? = some (.int .u64 (l.getD i (0, 0)).2)
  | [], i, h => by simp at h
  | p :: l, 0, _ => ⟨rfl, rfl⟩
  | p :: l, i + 1, h => by
    have := shc_get l i (by simpa using h)
    have e1 : (i + 1) * 2 = i * 2 + 1 + 1 := by omega
    rw [e1]
    exact this

theorem shc_len (l : List (Int × Int)) : (shc l).length = l.length * 2 := by
  induction l with
  | nil => rfl
  | cons a l ih => simp [shc] at ih ⊢; omega
theorem shc_app (l k : List (Int × Int)) : shc (l ++ k) = shc l ++ shc k := by simp [shc]
theorem shc_one (l : List (Int × Int)) : ∀ u ∈ shc l, u.oneCell' = true := fun u hu => by
  unfold shc at hu
  obtain ⟨p, _, hp⟩ := List.mem_flatMap.1 hu
  simp at hp
  rcases hp with rfl | rfl <;> rfl

/-- A slice of shares that the call itself gathers, and one share more. -/
theorem wpList_appS {P : Program} {T E : TypeId} (hT : P.underlying T = some (.slice E)) (info : (P.info? E).map (fun i => (i.zero, i.size, i.bytes)) = some (some (.agg #[.int .i64 0, .int .u64 0]), 2, 16))
    (w : World) {ops : Array Oper} {rest : List Oper} {o : Oper} {a : Act} {Q : Exit → Act → World → Prop} (hgd : o.guard = none) (s x : Operand)
    (ho : o.op = .call { callee := .builtin .append, args := #[s, x], argTypes := #[T, T] })
    (base : Nat) (v : Value) (n : Nat) (l : List (Int × Int)) (hs : a.eval s = v) (hown : w.ownsRow base E 2 v n (shc l)) (p q : Int) (hx : a.eval x = .slice (some ⟨w.heap.size, 0, none⟩) 1 1)
    (hn : n ≤ 1000000) (hbase : base ≤ w.heap.size)
    (h : ∀ v' w', w'.ownsRow base E 2 v' (n + 1) (shc (l ++ [(p, q)])) → Below base w w' → wpList P ops Q rest (a.put o.dst v') w') : wpList P ops Q (o :: rest) a (w.alloc (.cells #[.int .i64 p, .int .u64 q] E)) := by
  obtain ⟨i0, hi, hz0, hz1, hz2⟩ := info_parts info
  refine wpList_append_own _ hgd s x T ho base E i0 (.agg #[.int .i64 0, .int .u64 0]) 2 16 hT hi hz0 hz1 hz2 rfl (by decide) v n _ hs (hown.alloc _) ⟨w.heap.size, 0, none⟩ 1 1 [.int .i64 p, .int .u64 q] hx rfl ?_ ?_ (by unfold maxLen; omega) (by omega) (by simp; omega) ?_
  · intro j u hj
    match j, hj with
    | 0, hj => simp at hj; subst hj; rw [Addr.add_lit]; exact cell_alloc0 _ _ _ _
    | 1, hj => simp at hj; subst hj; rw [Addr.add_lit]; exact cell_alloc1 _ _ _ _
  · intro u hu; simp at hu; rcases hu with rfl | rfl <;> rfl
  · intro v' w' hown' hgrow _
    refine h v' w' (by rw [shc_snoc]; exact hown') ?_
    exact ((Below.refl _ _).alloc hbase _).grown hgrow (by simp; omega) (fun k hk => (hown.lt k hk).1)

theorem RdS.own {w : World} {base n : Nat} {E : TypeId} {v : Value} {l : List (Int × Int)} (h : w.ownsRow base E 2 v n (shc l)) (hl : l.length = n)
    (hb : ∀ i, i < n → (-9223372036854775808 ≤ (l.getD i (0, 0)).1 ∧ (l.getD i (0, 0)).1 ≤ 9223372036854775807) ∧ 0 ≤ (l.getD i (0, 0)).2 ∧ (l.getD i (0, 0)).2 ≤ 18446744073709551615) : ∃ a c, v = .slice a n c ∧ RdS w a n c l := by
  rcases h.2 with ⟨rfl, rfl⟩ | ⟨g, cap, cur, rfl, hb', hg, h1, h2, hs, ht⟩
  · exact ⟨none, 0, rfl, ⟨hl, Nat.le_refl _, Nat.zero_le _, hb, fun _ => rfl, by simp⟩⟩
  · refine ⟨_, _, rfl, ⟨hl, h1, h2, hb, by simp, fun x hx i hi => ?_⟩⟩
    obtain rfl := Option.some.inj hx
    have := shc_get l i (by omega)
    exact ⟨h.cells (g := g) rfl _ _ this.1, h.cells (g := g) rfl _ _ this.2⟩

/-- What uint64 makes of an int. -/
def u64of (x : Int) : Int := IntKind.u64.wrap x
theorem u64of_bd (x : Int) : 0 ≤ u64of x ∧ u64of x ≤ 18446744073709551615 := by
  unfold u64of IntKind.wrap
  simp [IntKind.signed, IntKind.bits]
  omega
theorem u64of_id {x : Int} (h0 : 1 ≤ x) (h1 : x ≤ 2147483646) : u64of x = x := by
  unfold u64of IntKind.wrap
  simp [IntKind.signed, IntKind.bits]
  omega
theorem own_below2 {w w' : World} {base n : Nat} {E : TypeId} {v : Value} {xs : List Value} (h : w.ownsRow base E 2 v n xs) (hb : Below w.heap.size w w') : w'.ownsRow base E 2 v n xs :=
  h.kept (grown_below hb none) (by cases hv : v.ownBlock <;> simp)

theorem infoSh : (Try.prog.info? 50).map (fun i => (i.zero, i.size, i.bytes)) = some (some (.agg #[.int .i64 0, .int .u64 0]), 2, 16) := by kernel_rfl
theorem infoZ : (Try.prog.info? 3).map (fun i => (i.zero, i.size, i.bytes)) = some (some (.int .i64 0), 1, 8) := by kernel_rfl
/-- What append has gathered reads as the ints that it gathered. -/
theorem RdI.own {w : World} {base n : Nat} {E : TypeId} {v : Value} {L : List Int} (h : w.ownsRow base E 1 v n (zns L)) (hb : ∀ x ∈ L, -9223372036854775808 ≤ x ∧ x ≤ 9223372036854775807) : ∃ a c, v = .slice a n c ∧ RdI w a n c L := by
  have hl : L.length = n := by have := h.1; rw [zns_len] at this; omega
  rcases h.2 with ⟨rfl, rfl⟩ | ⟨g, cap, cur, rfl, hb', hg, h1, h2, hs, ht⟩
  · exact ⟨none, 0, rfl, ⟨hl, Nat.le_refl _, Nat.zero_le _, hb, fun _ => rfl, by simp⟩⟩
  · refine ⟨_, _, rfl, ⟨hl, h1, h2, hb, by simp, fun x hx i hi => ?_⟩⟩
    obtain rfl := Option.some.inj hx
    rw [Addr.add_lit, Nat.zero_add]
    exact zns_at h hi
end Go.Proofs.Ytgmelcdgnjcojaf

namespace Go.Proofs.Ytgmelcdgnjcojaf
open Go.RowKit Crm

/-- So many parties, of whom k may look together. -/
def Crewed (e : Ending) : Prop := ∃ k m : Nat, e = .returned (.tuple #[.int .i64 k, .int .i64 m]) ∧ k ≤ 4 ∧ 2 * k + 1 ≤ m ∧ m ≤ 9
set_option maxRecDepth 100000 in
theorem kCrew (t n : Int) (w : World) :
    Calls Try.prog 7 #[.int .i64 t, .int .i64 n] w fun e w' => Crewed e ∧ w' = w := by
  go_enter Try.func7, Try.ntmps7
  go_wp2_with fail
  refine (rRest _ 5 _ (by omega) (by omega)).mono ?_
  rintro e w1 ⟨⟨k, hk, rfl⟩, hw⟩
  have hw := hw.symm
  subst hw
  have hd2 : (9 : Int) - 2 * k = ((9 - 2 * k : Nat) : Int) := by omega
  go_wp2_with fail
  refine (rRest _ (9 - 2 * k) _ (by omega) (by omega)).mono ?_
  rintro e w1 ⟨⟨q, hq, rfl⟩, hw⟩
  have hw := hw.symm
  subst hw
  go_wp2
  go_ret2
  exact ⟨⟨k, 2 * k + 1 + q, by go_num, by omega, by omega, by omega⟩, rfl⟩

set_option maxRecDepth 100000 in
theorem kFilledL (a : Option Addr) (n c : Nat) (xs : List Int) (k : Nat) (w : World) (h : Rd w a n c xs) (hk : k ≤ 1000) :
    Calls Try.prog 8 #[.slice a n c, .int .i64 k] w fun e w' => ∃ g, e = .returned (.slice (some ⟨g, 0, none⟩) k k) ∧ Rd w' (some ⟨g, 0, none⟩) k k (padded xs k) ∧ Below w.heap.size w w' := by
  obtain ⟨i0, hi, hz0, hz1, hz2⟩ := info_parts info23
  obtain ⟨P, HP⟩ : ∃ P, Hid (padded xs k = P) := ⟨_, rfl⟩
  have HPl : Hid (P.length = k) := by unfold Hid; rw [← HP.out]; exact padded_len xs k
  have HPb : Hid (∀ x ∈ P, 0 ≤ x ∧ x ≤ 18446744073709551615) := by unfold Hid; rw [← HP.out]; exact padded_bd h.bd k
  rw [HP.out]
  obtain ⟨cs, HCS⟩ : ∃ cs, Hid ((xs.take k).map (Value.int .u64) = cs) := ⟨_, rfl⟩
  obtain ⟨cu, HCU⟩ : ∃ cu, Hid ((List.replicate k (0 : Int)).map (Value.int .u64) = cu) := ⟨_, rfl⟩
  have hrl := h.len
  have hcl := copy_len (k := k) hrl
  have h1c := one_ints (xs.take k)
  have hsrcs := fun w' (hh : Rd w' a n c xs) => copy_src hh k
  have HSPL : Hid (Go.splice cu 0 cs = P.map (Value.int .u64)) := by unfold Hid; rw [← HCU.out, ← HCS.out, ← HP.out]; exact padded_splice xs k
  have hcul : cu.length = k := by rw [← HCU.out]; simp
  rw [HCS.out] at hcl h1c hsrcs
  have hcl2 : cs.length ≤ k := by rw [hcl]; exact Nat.min_le_right _ _
  go_enter Try.func8, Try.ntmps8
  go_wp2_with (first | (at_make; refine wpList_make_full _ rfl _ _ 22 rfl w.heap.size 23 i0 (.int .u64 0) 1 Try.underlying22 hi hz0 hz1 .i64 .i64 _ _ k rfl rfl (by omega) (by omega) (by rw [hz2]; omega) (by unfold maxLen; omega) (Nat.le_refl _) ?_; intro w3 hown hgrow; have hb3 : Blk w3 w.heap.size (List.replicate k 0) := Blk.made hown; have hbel3 : Below w.heap.size w w3 := (Below.refl _ _).grown hgrow (Nat.le_refl _) (by simp); have hrow3 := h.below hbel3; unfold Blk at hb3; rw [HCU.out] at hb3; clear hown hgrow) | (refine wpList_copy_splice rfl _ _ 22 22 rfl 23 Try.underlying22 (by rw [hi, Option.map_some, hz1]) (some ⟨w.heap.size, 0, none⟩) a k k n c (by rfl) (by rfl) w.heap.size 0 cu 23 hb3 cs hcl (fun hp => ⟨rfl, hsrcs w3 hrow3 hp⟩) (by omega) h1c w.heap.size w hbel3 (Nat.le_refl _) ?_; intro w4 HC4 hbel4))
  have hb4 : Blk w4 w.heap.size P := by unfold Blk; rw [← HSPL.out]; exact HC4.out
  have hr4 : Rd w4 (some ⟨w.heap.size, 0, none⟩) k k P := hb4.whole k HPl.out.symm (by unfold maxLen; omega) HPb.out
  clear HC4 hb3 hbel3 hrow3 hsrcs hcl h1c HCS HCU hcul hcl2 HSPL hb4
  go_wp2
  go_ret
  exact ⟨_, rfl, hr4, hbel4⟩

theorem kFilled (a : Option Addr) (n c : Nat) (xs : List Int) (k : Nat) (w : World) (h : Rd w a n c xs) (hk : k ≤ 4) :
    Calls Try.prog 8 #[.slice a n c, .int .i64 k] w fun e w' => ∃ g, e = .returned (.slice (some ⟨g, 0, none⟩) k k) ∧ Rd w' (some ⟨g, 0, none⟩) k k (padded xs k) ∧ Below w.heap.size w w' :=
  kFilledL _ _ _ _ _ _ h (by omega)

/-- Shares of all parties' numbers. -/
def shl (xs : List Int) (n : Nat) : List (Int × Int) := (List.range n).map fun (i : Nat) => ((i : Int) + 1, xs.getD i 0)
theorem shl_len (xs : List Int) (n : Nat) : (shl xs n).length = n := by simp [shl]
theorem shl_snoc (xs : List Int) (n : Nat) {x : Int} (hx : xs.getD n 0 = x) : shl xs n ++ [((n : Int) + 1, x)] = shl xs (n + 1) := by
  unfold shl
  rw [List.range_succ, List.map_append, ← hx]
  rfl
theorem shl_getD (xs : List Int) {n i : Nat} (h : i < n) : (shl xs n).getD i (0, 0) = ((i : Int) + 1, xs.getD i 0) := by simp [shl, h]

end Go.Proofs.Ytgmelcdgnjcojaf

namespace Crm

def sm (f : Nat → Int) : Nat → Int
  | 0 => 0
  | n + 1 => sm f n + f n
theorem sm_ncongr {f g : Nat → Int} : ∀ {n : Nat}, (∀ j, j < n → nm (f j) = nm (g j)) → nm (sm f n) = nm (sm g n)
  | 0, _ => rfl
  | n + 1, h => nm_add_congr (sm_ncongr fun j hj => h j (by omega)) (h n (by omega))
theorem sm_add (f g : Nat → Int) : ∀ n, sm (fun j => f j + g j) n = sm f n + sm g n
  | 0 => rfl
  | n + 1 => by rw [sm, sm, sm, sm_add f g n]; omega
theorem sm_mul (c : Int) (f : Nat → Int) : ∀ n, sm (fun j => c * f j) n = c * sm f n
  | 0 => by rw [sm, sm, Int.mul_zero]
  | n + 1 => by rw [sm, sm, sm_mul c f n, Int.mul_add]
theorem sm_zero {f : Nat → Int} {n : Nat} (h : ∀ j, j < n → nm (f j) = 0) : nm (sm f n) = 0 := by
  have : ∀ n, sm (fun _ => 0) n = 0 := fun n => by induction n with | zero => rfl | succ n ih => rw [sm, ih]; rfl
  rw [sm_ncongr (g := fun _ => 0) (fun j hj => h j hj), this]; rfl
theorem sm_cut {f : Nat → Int} {m : Nat} : ∀ {n : Nat}, m ≤ n → (∀ j, m ≤ j → j < n → nm (f j) = 0) → nm (sm f n) = nm (sm f m)
  | 0, hm, _ => by rw [Nat.le_zero.1 hm]
  | n + 1, hm, h => by
    by_cases e : m = n + 1
    · rw [e]
    · rw [sm, nm_add_congr (c := sm f m) (d := 0) (sm_cut (by omega) fun j h1 h2 => h j h1 (by omega)) (h n (by omega) (by omega)), Int.add_zero]
theorem sm_swap (F : Nat → Nat → Int) (n : Nat) : ∀ m, sm (fun j => sm (fun k => F k j) m) n = sm (fun k => sm (fun j => F k j) n) m
  | 0 => by
    have : ∀ n, sm (fun _ => 0) n = 0 := fun n => by induction n with | zero => rfl | succ n ih => rw [sm, ih]; rfl
    exact this n
  | m + 1 => by
    show sm (fun j => sm (fun k => F k j) m + F m j) n = sm (fun k => sm (fun j => F k j) n) m + sm (fun j => F m j) n
    rw [sm_add, sm_swap F n m]

/-- f, number by number times the columns, is nought in each row. -/
def NS (M : Nat → Nat → Int) (r w : Nat) (f : Nat → Int) : Prop := ∀ i, i < r → nm (sm (fun j => f j * M i j) w) = 0
/-- Column c is a sum of columns ahead of it, each times some number. -/
def dep (M : Nat → Nat → Int) (r c : Nat) : Prop := ∃ f : Nat → Int, ∀ i, i < r → nm (sm (fun j => f j * M i j) c) = nm (M i c)

theorem dep_of_ns {M : Nat → Nat → Int} {r w c : Nat} {f : Nat → Int} (h : NS M r w f) (hc : c < w) (h0 : nm (f c) ≠ 0) (hz : ∀ j, c < j → j < w → nm (f j) = 0) : dep M r c := by
  refine ⟨fun j => -(iv (f c)) * f j, fun i hi => ?_⟩
  have h1 := h i hi
  rw [sm_cut (m := c + 1) (by omega) (fun j h1 h2 => by rw [nm_mul_congr (c := 0) (hz j (by omega) h2) rfl, Int.zero_mul]; rfl), sm] at h1
  have e : nm (sm (fun j => -(iv (f c)) * f j * M i j) c) = nm (-(iv (f c)) * sm (fun j => f j * M i j) c) := by
    rw [← sm_mul]
    exact sm_ncongr fun j _ => by rw [Int.mul_assoc]
  rw [e]
  generalize sm (fun j => f j * M i j) c = S at *
  have h2 : nm S = nm (-(f c * M i c)) := by unfold nm at *; omega
  rw [nm_mul_congr rfl h2, Int.neg_mul_neg, ← Int.mul_assoc, ← nm_mull, iv_mul h0, Int.one_mul]
theorem ns_of_dep {M : Nat → Nat → Int} {r w c : Nat} (h : dep M r c) (hc : c < w) : ∃ f, NS M r w f ∧ nm (f c) ≠ 0 ∧ ∀ j, c < j → j < w → nm (f j) = 0 := by
  obtain ⟨f, hf⟩ := h
  refine ⟨fun j => if j < c then f j else if j = c then -1 else 0, fun i hi => ?_, ?_, fun j h1 h2 => ?_⟩
  · rw [sm_cut (m := c + 1) (by omega) (fun j h1 h2 => by
      show nm ((if j < c then f j else if j = c then -1 else 0) * M i j) = 0
      rw [if_neg (by omega), if_neg (by omega), Int.zero_mul]; rfl), sm]
    have e : nm (sm (fun j => (if j < c then f j else if j = c then -1 else 0) * M i j) c) = nm (M i c) := by
      rw [← hf i hi]
      exact sm_ncongr fun j hj => by rw [if_pos hj]
    have e2 : (if c < c then f c else if c = c then (-1 : Int) else 0) = -1 := by rw [if_neg (by omega), if_pos rfl]
    show nm (sm (fun j => (if j < c then f j else if j = c then -1 else 0) * M i j) c + (if c < c then f c else if c = c then (-1 : Int) else 0) * M i c) = 0
    rw [e2, nm_add_congr (c := M i c) (d := -1 * M i c) e rfl, Int.neg_one_mul, Int.add_right_neg]; rfl
  · show nm (if c < c then f c else if c = c then (-1 : Int) else 0) ≠ 0
    rw [if_neg (by omega), if_pos rfl]; decide
  · show nm (if j < c then f j else if j = c then (-1 : Int) else 0) = 0
    rw [if_neg (by omega), if_neg (by omega)]; rfl
/-- Which columns are sums hangs on what is nought alone. -/
theorem dep_congr {M A : Nat → Nat → Int} {r s w : Nat} (h : ∀ f, NS M r w f ↔ NS A s w f) {c : Nat} (hc : c < w) : dep M r c ↔ dep A s c := by
  constructor
  · intro hd
    obtain ⟨f, h1, h2, h3⟩ := ns_of_dep hd hc
    exact dep_of_ns ((h f).1 h1) hc h2 h3
  · intro hd
    obtain ⟨f, h1, h2, h3⟩ := ns_of_dep hd hc
    exact dep_of_ns ((h f).2 h1) hc h2 h3
/-- What is nought and has numbers at columns alone that are no sums is 0. -/
theorem ns_zero {M : Nat → Nat → Int} {r w : Nat} {f : Nat → Int} (h : NS M r w f) (hd : ∀ c, c < w → nm (f c) ≠ 0 → ¬ dep M r c) : ∀ c, c < w → nm (f c) = 0 := by
  have key : ∀ d, d ≤ w → ∀ j, w - d ≤ j → j < w → nm (f j) = 0 := by
    intro d
    induction d with
    | zero => intro _ j h1 h2; omega
    | succ d ih =>
      intro hdw j h1 h2
      by_cases e : w - d ≤ j
      · exact ih (by omega) j e h2
      · rcases Int.decEq (nm (f j)) 0 with hne | heq
        · exact absurd (dep_of_ns h h2 hne fun k h3 h4 => ih (by omega) k (by omega) h4) (hd j h2 hne)
        · exact heq
  exact fun c hc => key w (Nat.le_refl _) c (by omega) hc

/-- Number i of the k-th list. -/
def bk (B : List (List Int)) (k i : Nat) : Int := (B.getD k []).getD i 0
theorem bk_old {B : List (List Int)} {b : List Int} {k : Nat} (h : k < B.length) (i : Nat) : bk (B ++ [b]) k i = bk B k i := by
  unfold bk; simp [List.getElem?_append_left h]
theorem bk_new (B : List (List Int)) (b : List Int) (i : Nat) : bk (B ++ [b]) B.length i = b.getD i 0 := by
  unfold bk; simp

/-- Where the document's way stands ahead of column c. -/
structure LeI (M : Nat → Nat → Int) (r c : Nat) (B : List (List Int)) (at_ L : List Nat) : Prop where
  la : at_.length = B.length
  ll : L.length = B.length
  lb : ∀ k, k < B.length → (B.getD k []).length = r
  ab : ∀ k, k < B.length → at_.getD k 0 < r
  one : ∀ k, k < B.length → nm (bk B k (at_.getD k 0)) = 1
  later : ∀ k q, k < q → q < B.length → nm (bk B q (at_.getD k 0)) = 0
  ins : ∀ k, k < B.length → ∃ f : Nat → Int, ∀ i, i < r → nm (sm (fun j => f j * M i j) c) = nm (bk B k i)
  spans : ∀ j, j < c → ∃ a : Nat → Int, ∀ i, i < r → nm (sm (fun k => a k * bk B k i) B.length) = nm (M i j)
  lead : ∀ j, j < c → (j ∈ L ↔ ¬ dep M r j)
  lt : ∀ j ∈ L, j < c
  up : L.Pairwise (· < ·)

theorem le_start (M : Nat → Nat → Int) (r : Nat) : LeI M r 0 [] [] [] :=
  ⟨rfl, rfl, fun k hk => by simp at hk, fun k hk => by simp at hk, fun k hk => by simp at hk, fun k q _ hq => by simp at hq, fun k hk => by simp at hk, fun j hj => by omega, fun j hj => by omega, fun j hj => by simp at hj, List.Pairwise.nil⟩

/-- The column, cleared by the first k lists. -/
structure ClI (M : Nat → Nat → Int) (r c : Nat) (B : List (List Int)) (at_ : List Nat) (k : Nat) (C : Nat → Int) : Prop where
  eq : ∃ a : Nat → Int, ∀ i, i < r → nm (C i + sm (fun q => a q * bk B q i) k) = nm (M i c)
  z : ∀ q, q < k → nm (C (at_.getD q 0)) = 0
theorem cl_start (M : Nat → Nat → Int) (r c : Nat) (B : List (List Int)) (at_ : List Nat) {C : Nat → Int} (h : ∀ i, i < r → nm (C i) = nm (M i c)) : ClI M r c B at_ 0 C :=
  ⟨⟨fun _ => 0, fun i hi => by rw [sm, Int.add_zero]; exact h i hi⟩, fun q hq => by omega⟩
theorem cl_step {M : Nat → Nat → Int} {r c : Nat} {B : List (List Int)} {at_ L : List Nat} {k : Nat} {C D : Nat → Int} {m : Int} (hl : LeI M r c B at_ L) (h : ClI M r c B at_ k C) (hk : k < B.length)
    (hm : m = nm (-(C (at_.getD k 0)))) (hD : ∀ i, i < r → nm (D i) = nm (C i + m * bk B k i)) : ClI M r c B at_ (k + 1) D := by
  obtain ⟨a, ha⟩ := h.eq
  refine ⟨⟨fun q => if q = k then -m else a q, fun i hi => ?_⟩, fun q hq => ?_⟩
  · rw [← ha i hi, sm]
    show nm (D i + (sm (fun q => (if q = k then -m else a q) * bk B q i) k + (if k = k then -m else a k) * bk B k i)) = _
    rw [if_pos rfl]
    have e : nm (sm (fun q => (if q = k then -m else a q) * bk B q i) k) = nm (sm (fun q => a q * bk B q i) k) := sm_ncongr fun q hq => by rw [if_neg (by omega)]
    rw [nm_add_congr (hD i hi) (nm_add_congr e rfl), Int.neg_mul]
    congr 1; omega
  · have hr := hl.ab q (by omega)
    rw [hD _ hr]
    by_cases e : q = k
    · subst e
      rw [nm_add_congr (c := C (at_.getD q 0)) (d := m * 1) rfl (nm_mul_congr rfl (by rw [hl.one q hk]; rfl)), Int.mul_one, hm, nm_addr, Int.add_right_neg]; rfl
    · rw [nm_add_congr (c := 0) (d := m * 0) (h.z q (by omega)) (nm_mul_congr rfl (hl.later q k (by omega) hk)), Int.mul_zero]; rfl

/-- Sums of sums of columns are sums of columns. -/
theorem ins_sum {M : Nat → Nat → Int} {r c : Nat} {B : List (List Int)} (h : ∀ k, k < B.length → ∃ f : Nat → Int, ∀ i, i < r → nm (sm (fun j => f j * M i j) c) = nm (bk B k i)) (a : Nat → Int) :
    ∃ f : Nat → Int, ∀ i, i < r → nm (sm (fun j => f j * M i j) c) = nm (sm (fun k => a k * bk B k i) B.length) := by
  have hc : ∀ k, ∃ f : Nat → Int, k < B.length → ∀ i, i < r → nm (sm (fun j => f j * M i j) c) = nm (bk B k i) := fun k => by
    by_cases hk : k < B.length
    · obtain ⟨f, hf⟩ := h k hk; exact ⟨f, fun _ => hf⟩
    · exact ⟨fun _ => 0, fun h => absurd h hk⟩
  let F := fun k => Classical.choose (hc k)
  have hF := fun k => Classical.choose_spec (hc k)
  refine ⟨fun j => sm (fun k => a k * F k j) B.length, fun i hi => ?_⟩
  have e1 : nm (sm (fun j => sm (fun k => a k * F k j) B.length * M i j) c) = nm (sm (fun j => sm (fun k => a k * F k j * M i j) B.length) c) := sm_ncongr fun j _ => by
    rw [Int.mul_comm, ← sm_mul]
    exact sm_ncongr fun k _ => by rw [Int.mul_comm]
  rw [e1, sm_swap]
  refine sm_ncongr fun k hk => ?_
  have e2 : nm (sm (fun j => a k * F k j * M i j) c) = nm (a k * sm (fun j => F k j * M i j) c) := by
    rw [← sm_mul]
    exact sm_ncongr fun j _ => by rw [Int.mul_assoc]
  rw [e2]
  exact nm_mul_congr rfl (hF k hk i hi)
/-- A sum of the lists that is 0 at all their places is 0. -/
theorem at_zero {M : Nat → Nat → Int} {r c : Nat} {B : List (List Int)} {at_ L : List Nat} (hl : LeI M r c B at_ L) {a : Nat → Int}
    (h : ∀ q, q < B.length → nm (sm (fun k => a k * bk B k (at_.getD q 0)) B.length) = 0) : ∀ q, q < B.length → nm (a q) = 0 := by
  intro q
  induction q using Nat.strongRecOn with
  | ind q ih =>
    intro hq
    have h1 := h q hq
    rw [sm_cut (m := q + 1) (by omega) (fun k h1 h2 => by rw [nm_mul_congr (d := 0) rfl (hl.later q k (by omega) h2), Int.mul_zero]; rfl), sm,
      nm_add_congr (c := 0) (d := a q * 1) (sm_zero fun k hk => by rw [nm_mul_congr (c := 0) (ih k hk (by omega)) rfl, Int.zero_mul]; rfl) (nm_mul_congr rfl (by rw [hl.one q hq]; rfl)),
      Int.zero_add, Int.mul_one] at h1
    exact h1
/-- A column that is a sum of those ahead is cleared wholly. -/
theorem cl_dep {M : Nat → Nat → Int} {r c : Nat} {B : List (List Int)} {at_ L : List Nat} {C : Nat → Int} (hl : LeI M r c B at_ L) (h : ClI M r c B at_ B.length C) (hd : dep M r c) : ∀ i, i < r → nm (C i) = 0 := by
  obtain ⟨a, ha⟩ := h.eq
  obtain ⟨f, hf⟩ := hd
  have hc : ∀ j, ∃ b : Nat → Int, j < c → ∀ i, i < r → nm (sm (fun k => b k * bk B k i) B.length) = nm (M i j) := fun j => by
    by_cases hj : j < c
    · obtain ⟨b, hb⟩ := hl.spans j hj; exact ⟨b, fun _ => hb⟩
    · exact ⟨fun _ => 0, fun h => absurd h hj⟩
  let F := fun j => Classical.choose (hc j)
  have hF := fun j => Classical.choose_spec (hc j)
  have h1 : ∀ i, i < r → nm (C i) = nm (sm (fun k => (sm (fun j => f j * F j k) c - a k) * bk B k i) B.length) := fun i hi => by
    have e1 : nm (sm (fun j => f j * M i j) c) = nm (sm (fun k => sm (fun j => f j * F j k) c * bk B k i) B.length) := by
      have e2 : nm (sm (fun j => f j * M i j) c) = nm (sm (fun j => sm (fun k => f j * F j k * bk B k i) B.length) c) := sm_ncongr fun j hj => by
        rw [nm_mul_congr rfl (hF j hj i hi).symm, ← sm_mul]
        exact sm_ncongr fun k _ => by rw [Int.mul_assoc]
      rw [e2, sm_swap]
      exact sm_ncongr fun k _ => by
        rw [Int.mul_comm, ← sm_mul]
        exact sm_ncongr fun j _ => by rw [Int.mul_comm]
    have e3 : sm (fun k => (sm (fun j => f j * F j k) c - a k) * bk B k i) B.length = sm (fun k => sm (fun j => f j * F j k) c * bk B k i) B.length + (-1) * sm (fun k => a k * bk B k i) B.length := by
      rw [← sm_mul, ← sm_add]
      congr 1; funext k
      rw [Int.sub_mul, Int.neg_one_mul]; omega
    rw [e3]
    have h2 := ha i hi
    have h3 := hf i hi
    rw [e1] at h3
    generalize sm (fun k => sm (fun j => f j * F j k) c * bk B k i) B.length = X at *
    generalize sm (fun k => a k * bk B k i) B.length = Y at *
    unfold nm at *; omega
  have h2 := at_zero hl (a := fun k => sm (fun j => f j * F j k) c - a k) fun q hq => by
    rw [← h1 _ (hl.ab q hq)]; exact h.z q hq
  intro i hi
  rw [h1 i hi]
  exact sm_zero fun k hk => by rw [nm_mul_congr (c := 0) (h2 k hk) rfl, Int.zero_mul]; rfl
/-- A column that is cleared wholly is a sum of those ahead. -/
theorem dep_cl {M : Nat → Nat → Int} {r c : Nat} {B : List (List Int)} {at_ L : List Nat} {C : Nat → Int} (hl : LeI M r c B at_ L) (h : ClI M r c B at_ B.length C) (hz : ∀ i, i < r → nm (C i) = 0) : dep M r c := by
  obtain ⟨a, ha⟩ := h.eq
  obtain ⟨f, hf⟩ := ins_sum hl.ins a
  refine ⟨f, fun i hi => ?_⟩
  rw [hf i hi, ← ha i hi, nm_add_congr (c := 0) (hz i hi) rfl, Int.zero_add]
theorem getD_nat_old {l : List Nat} {b k : Nat} (h : k < l.length) : (l ++ [b]).getD k 0 = l.getD k 0 := by simp [List.getElem?_append_left h]
theorem getD_nat_new (l : List Nat) (b : Nat) : (l ++ [b]).getD l.length 0 = b := by simp
theorem getD_list_old {l : List (List Int)} {b : List Int} {k : Nat} (h : k < l.length) : (l ++ [b]).getD k [] = l.getD k [] := by simp [List.getElem?_append_left h]
theorem getD_list_new (l : List (List Int)) (b : List Int) : (l ++ [b]).getD l.length [] = b := by simp
/-- The next column is a sum of those ahead: nothing is added. -/
theorem le_skip {M : Nat → Nat → Int} {r c : Nat} {B : List (List Int)} {at_ L : List Nat} {C : Nat → Int} (hl : LeI M r c B at_ L) (h : ClI M r c B at_ B.length C) (hz : ∀ i, i < r → nm (C i) = 0) : LeI M r (c + 1) B at_ L := by
  have hd := dep_cl hl h hz
  refine ⟨hl.la, hl.ll, hl.lb, hl.ab, hl.one, hl.later, fun k hk => ?_, fun j hj => ?_, fun j hj => ?_, fun j hj => ?_, hl.up⟩
  · obtain ⟨f, hf⟩ := hl.ins k hk
    refine ⟨fun j => if j < c then f j else 0, fun i hi => ?_⟩
    rw [sm]
    show nm (sm (fun j => (if j < c then f j else 0) * M i j) c + (if c < c then f c else 0) * M i c) = _
    rw [if_neg (by omega), Int.zero_mul, Int.add_zero, ← hf i hi]
    exact sm_ncongr fun j hj => by rw [if_pos hj]
  · by_cases e : j = c
    · subst e
      obtain ⟨a, ha⟩ := h.eq
      refine ⟨a, fun i hi => ?_⟩
      rw [← ha i hi, nm_add_congr (c := 0) (hz i hi) rfl, Int.zero_add]
    · exact hl.spans j (by omega)
  · by_cases e : j = c
    · subst e
      exact ⟨fun h => absurd (hl.lt j h) (by omega), fun h => absurd hd h⟩
    · exact hl.lead j (by omega)
  · have := hl.lt j hj; omega
/-- The next column leads: it is added, made 1 at its place. -/
theorem le_lead {M : Nat → Nat → Int} {r c : Nat} {B : List (List Int)} {at_ L : List Nat} {C : Nat → Int} {b : List Int} {p : Nat} (hl : LeI M r c B at_ L) (h : ClI M r c B at_ B.length C) (hp : p < r) (hC : nm (C p) ≠ 0)
    (hb : b.length = r) (hbi : ∀ i, i < r → nm (b.getD i 0) = nm (C i * iv (C p))) : LeI M r (c + 1) (B ++ [b]) (at_ ++ [p]) (L ++ [c]) := by
  have hnd : ¬ dep M r c := fun hd => hC (cl_dep hl h hd p hp)
  have hlen : (B ++ [b]).length = B.length + 1 := by simp
  obtain ⟨a, ha⟩ := h.eq
  refine ⟨by rw [List.length_append, List.length_append, hl.la]; rfl, by rw [List.length_append, List.length_append, hl.ll]; rfl, fun k hk => ?_, fun k hk => ?_, fun k hk => ?_, fun k q hkq hq => ?_, fun k hk => ?_, fun j hj => ?_, fun j hj => ?_, fun j hj => ?_, ?_⟩
  · rw [hlen] at hk
    by_cases e : k < B.length
    · rw [getD_list_old e]; exact hl.lb k e
    · rw [show k = B.length by omega, getD_list_new]; exact hb
  · rw [hlen] at hk
    by_cases e : k < B.length
    · rw [getD_nat_old (by rw [hl.la]; exact e)]; exact hl.ab k e
    · rw [show k = at_.length by rw [hl.la]; omega, getD_nat_new]; exact hp
  · rw [hlen] at hk
    by_cases e : k < B.length
    · rw [getD_nat_old (by rw [hl.la]; exact e), bk_old e]; exact hl.one k e
    · rw [show k = B.length by omega, bk_new, ← hl.la, getD_nat_new, hbi p hp, mul_iv hC]
  · rw [hlen] at hq
    have hk : k < B.length := by omega
    rw [getD_nat_old (by rw [hl.la]; exact hk)]
    by_cases e : q < B.length
    · rw [bk_old e]; exact hl.later k q hkq e
    · rw [show q = B.length by omega, bk_new, hbi _ (hl.ab k hk), nm_mul_congr (c := 0) (h.z k hk) rfl, Int.zero_mul]; rfl
  · rw [hlen] at hk
    by_cases e : k < B.length
    · obtain ⟨f, hf⟩ := hl.ins k e
      refine ⟨fun j => if j < c then f j else 0, fun i hi => ?_⟩
      rw [sm]
      show nm (sm (fun j => (if j < c then f j else 0) * M i j) c + (if c < c then f c else 0) * M i c) = _
      rw [if_neg (by omega), Int.zero_mul, Int.add_zero, bk_old e, ← hf i hi]
      exact sm_ncongr fun j hj => by rw [if_pos hj]
    · obtain ⟨f, hf⟩ := ins_sum hl.ins a
      refine ⟨fun j => if j < c then -(iv (C p)) * f j else iv (C p), fun i hi => ?_⟩
      rw [sm]
      show nm (sm (fun j => (if j < c then -(iv (C p)) * f j else iv (C p)) * M i j) c + (if c < c then -(iv (C p)) * f c else iv (C p)) * M i c) = _
      rw [if_neg (by omega), show k = B.length by omega, bk_new, hbi i hi]
      have e1 : nm (sm (fun j => (if j < c then -(iv (C p)) * f j else iv (C p)) * M i j) c) = nm (-(iv (C p)) * sm (fun k => a k * bk B k i) B.length) := by
        have e2 : nm (sm (fun j => (if j < c then -(iv (C p)) * f j else iv (C p)) * M i j) c) = nm (-(iv (C p)) * sm (fun j => f j * M i j) c) := by
          rw [← sm_mul]
          exact sm_ncongr fun j hj => by rw [if_pos hj, Int.mul_assoc]
        rw [e2]
        exact nm_mul_congr rfl (hf i hi)
      rw [nm_add_congr e1 (nm_mul_congr rfl (ha i hi).symm), Int.mul_add, Int.neg_mul, Int.mul_comm (C i)]
      congr 1; omega
  · by_cases e : j < c
    · obtain ⟨d, hd⟩ := hl.spans j e
      refine ⟨fun k => if k < B.length then d k else 0, fun i hi => ?_⟩
      rw [hlen, sm]
      show nm (sm (fun k => (if k < B.length then d k else 0) * bk (B ++ [b]) k i) B.length + (if B.length < B.length then d B.length else 0) * bk (B ++ [b]) B.length i) = _
      rw [if_neg (by omega), Int.zero_mul, Int.add_zero, ← hd i hi]
      exact sm_ncongr fun k hk => by rw [if_pos hk, bk_old hk]
    · refine ⟨fun k => if k < B.length then a k else C p, fun i hi => ?_⟩
      rw [hlen, sm]
      show nm (sm (fun k => (if k < B.length then a k else C p) * bk (B ++ [b]) k i) B.length + (if B.length < B.length then a B.length else C p) * bk (B ++ [b]) B.length i) = _
      rw [if_neg (by omega), bk_new, show j = c by omega, ← ha i hi, Int.add_comm (C i)]
      refine nm_add_congr (sm_ncongr fun k hk => by rw [if_pos hk, bk_old hk]) ?_
      rw [nm_mul_congr rfl (hbi i hi), Int.mul_comm (C i), ← Int.mul_assoc, ← nm_mull, mul_iv hC, Int.one_mul]
  · by_cases e : j < c
    · rw [List.mem_append, List.mem_singleton]
      have := hl.lead j e
      exact ⟨fun hh => this.1 (hh.resolve_right (by omega)), fun hh => .inl (this.2 hh)⟩
    · have e2 : j = c := by omega
      subst e2
      exact ⟨fun _ => hnd, fun _ => by simp⟩
  · rw [List.mem_append, List.mem_singleton] at hj
    rcases hj with hj | hj
    · have := hl.lt j hj; omega
    · omega
  · rw [List.pairwise_append]
    refine ⟨hl.up, by simp, fun x hx y hy => ?_⟩
    rw [List.mem_singleton] at hy
    have := hl.lt x hx
    omega

/-- Two lists that go up and hold the same are the same. -/
theorem up_ext : ∀ {l m : List Nat}, l.Pairwise (· < ·) → m.Pairwise (· < ·) → (∀ x, x ∈ l ↔ x ∈ m) → l = m
  | [], [], _, _, _ => rfl
  | [], b :: m, _, _, h => absurd ((h b).2 (List.mem_cons_self ..)) (by simp)
  | a :: l, [], _, _, h => absurd ((h a).1 (List.mem_cons_self ..)) (by simp)
  | a :: l, b :: m, hl, hm, h => by
    rw [List.pairwise_cons] at hl hm
    have hab : a = b := by
      have h1 := (h a).1 (List.mem_cons_self ..)
      have h2 := (h b).2 (List.mem_cons_self ..)
      rcases List.mem_cons.1 h1 with e | e
      · exact e
      · rcases List.mem_cons.1 h2 with e2 | e2
        · exact e2.symm
        · have := hm.1 a e
          have := hl.1 b e2
          omega
    subst hab
    refine congrArg _ (up_ext hl.2 hm.2 fun x => ?_)
    have := h x
    rw [List.mem_cons, List.mem_cons] at this
    constructor
    · intro hx
      rcases this.1 (.inr hx) with e | e
      · have := hl.1 x hx; omega
      · exact e
    · intro hx
      rcases this.2 (.inr hx) with e | e
      · have := hm.1 x hx; omega
      · exact e
end Crm
